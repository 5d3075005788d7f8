/- One net of the call's own beside blocks J; it may read blocks that others read, too. -/
import Derived.Test.YtbmebmkpjbgdoaaSys
import Derived.Test.YtbmebmkpjbgdoaaRefA
namespace Go.Proofs.Ytbmebmkpjbgdoaa
open Go.RowKit
/-- the world in which the law began, the world behind which new blocks are, and blocks that nobody writes -/
structure Fr where
  w0 : World
  wb : World
  S : Bks
@[reducible] def Fr.heap (f : Fr) : Array Obj := f.wb.heap
/-- the net d at block p, whose blocks the call made, none of them in J, but for those that it reads alone -/
def Oke (w : Fr) (J : Bks) (wi : World) (p : Nat) (d : Nt) : Prop :=
  ∃ O I, NetAt wi O I p d ∧ (∀ k, O k → ¬ J k ∧ w.w0.heap.size ≤ k) ∧ (∀ k, I k → ¬ J k ∨ w.S k) ∧ (∀ k, J k → k < wi.heap.size) ∧ Below w.w0.heap.size w.w0 wi
theorem Oke.below {w : Fr} {wi : World} {J : Bks} {p : Nat} {d : Nt} (h : Oke w J wi p d) : Below w.w0.heap.size w.w0 wi := by obtain ⟨_, _, _, _, _, _, h⟩ := h; exact h
theorem Oke.lt {w : Fr} {wi : World} {J : Bks} {p : Nat} {d : Nt} (h : Oke w J wi p d) : ∀ k, J k → k < wi.heap.size := by obtain ⟨_, _, _, _, _, h, _⟩ := h; exact h
theorem Oke.ok {w : Fr} {wi : World} {J : Bks} {p : Nat} {d : Nt} (h : Oke w J wi p d) : d.ok := by obtain ⟨_, _, h, _⟩ := h; exact h.1
theorem Oke.step {w : Fr} {wi w' : World} {J : Bks} {p : Nat} {d' : Nt} {O I O' I' : Bks} (hO : ∀ k, O k → ¬ J k ∧ w.w0.heap.size ≤ k) (hI : ∀ k, I k → ¬ J k ∨ w.S k) (hJ : ∀ k, J k → k < wi.heap.size) (hb : Below w.w0.heap.size w.w0 wi) (h' : NetAt w' O' I' p d') (hs : Step wi O I w' O' I') : Oke w J w' p d' ∧ Keep J wi w' := by
  obtain ⟨hc, hO', hI'⟩ := hs
  have hn : ∀ k, wi.heap.size ≤ k → ¬ J k := fun k hk hj => by have := hJ k hj; omega
  refine ⟨⟨O', I', h', fun k hk => ?_, fun k hk => ?_, fun k hk => Nat.lt_of_lt_of_le (hJ k hk) hc.size, hb.trans (hc.below hb.size fun k hk => (hO k hk).2)⟩, hc.keep fun k hk => (hO k hk).1⟩
  · rcases hO' k hk with h | h
    · exact hO k h
    · exact ⟨hn k h, Nat.le_trans hb.size h⟩
  · rcases hI' k hk with h | h
    · exact hI k h
    · exact .inl (hn k h)
/-- other blocks are written, or made; X are new ones -/
theorem Oke.write {w : Fr} {wi w' : World} {J C : Bks} {p : Nat} {d : Nt} (h : Oke w J wi p d) (hc : Chg C wi w') (hC : ∀ k, C k → J k ∧ ¬ w.S k ∧ w.w0.heap.size ≤ k) (X : Bks) (hX : ∀ k, X k → wi.heap.size ≤ k ∧ k < w'.heap.size) : Oke w (fun k => J k ∨ X k) w' p d := by
  obtain ⟨O, I, hd, hO, hI, hJ, hb⟩ := h
  have hlt := hd.lt
  refine ⟨O, I, hd.chg hc fun k hk => ⟨fun h => (hO k h).1 (hC k hk).1, fun h => (hI k h).elim (fun h => h (hC k hk).1) fun h => (hC k hk).2.1 h⟩, fun k hk => ⟨fun h => ?_, (hO k hk).2⟩, fun k hk => ?_, fun k hk => ?_, hb.trans (hc.below hb.size fun k hk => (hC k hk).2.2)⟩
  · rcases h with h | h
    · exact (hO k hk).1 h
    · have := hlt k (.inl hk); have := (hX k h).1; omega
  · rcases hI k hk with h | h
    · refine .inl fun h2 => ?_
      rcases h2 with h2 | h2
      · exact h h2
      · have := hlt k (.inr hk); have := (hX k h2).1; omega
    · exact .inr h
  · rcases hk with hk | hk
    · have := hJ k hk; have := hc.size; omega
    · exact (hX k hk).2
theorem Oke.more {w : Fr} {wi w' : World} {J : Bks} {p : Nat} {d : Nt} (h : Oke w J wi p d) (hb' : Below wi.heap.size wi w') (X : Bks) (hX : ∀ k, X k → wi.heap.size ≤ k ∧ k < w'.heap.size) : Oke w (fun k => J k ∨ X k) w' p d :=
  h.write (C := fun _ => False) (Chg.of_below hb' (Nat.le_refl _)) (fun _ h => h.elim) X hX
theorem Oke.narrow {w : Fr} {wi : World} {J J' : Bks} {p : Nat} {d : Nt} (h : Oke w J wi p d) (hJ : ∀ k, J' k → J k) : Oke w J' wi p d := by
  obtain ⟨O, I, hd, hO, hI, hl, hb⟩ := h
  exact ⟨O, I, hd, fun k hk => ⟨fun hj => (hO k hk).1 (hJ k hj), (hO k hk).2⟩, fun k hk => (hI k hk).imp (fun h hj => h (hJ k hj)) id, fun k hk => hl k (hJ k hk), hb⟩
theorem Oke.still {w : Fr} {wi w' : World} {J : Bks} {p : Nat} {d : Nt} (h : Oke w J wi p d) (hb' : Below wi.heap.size wi w') : Oke w J w' p d := (h.more hb' (fun _ => False) fun _ h => h.elim).narrow fun _ h => .inl h
theorem Oke.does {w : Fr} {wi : World} {J : Bks} {p f : Nat} {d d' : Nt} {args : Array Value} {r : Int} (h : Oke w J wi p d) (hc : ∀ O I, NetAt wi O I p d → Calls Try.prog f args wi (Does wi O I p r d')) :
    Calls Try.prog f args wi fun e w' => e = .returned (.int .i64 r) ∧ Oke w J w' p d' ∧ Keep J wi w' := by
  obtain ⟨O, I, hd, hO, hI, hJ, hb⟩ := h
  refine (hc O I hd).mono ?_
  rintro e w' ⟨rfl, O', I', hd', hs⟩
  exact ⟨rfl, Oke.step hO hI hJ hb hd' hs⟩
theorem Oke.tell {w : Fr} {wi : World} {J : Bks} {p : Nat} {d : Nt} (h : Oke w J wi p d) (i : Int) :
    Calls Try.prog 17 #[.pointer (some ⟨p, 0, none⟩), .int .i64 i] wi (Tells wi J (d.at i).1 (d.at i).2 fun J' w' => Oke w J' w' p d) := by
  have h2 := h
  obtain ⟨O, I, ⟨ho, sv, vs, hd⟩, _⟩ := h
  refine (at_any hd ho i).mono ?_
  rintro e w' ⟨u, rfl, hown, hbl⟩
  obtain ⟨a, c, rfl⟩ := hown.form
  exact ⟨a, c, _, rfl, hown, rfl, h2.more hbl _ fun k hk => hown.lt k hk, Keep.of_below hbl⟩
theorem Oke.deliver {w : Fr} {wi : World} {J : Bks} {p : Nat} {d : Nt} (h : Oke w J wi p d) (i : Int) :
    Calls Try.prog 18 #[.pointer (some ⟨p, 0, none⟩), .int .i64 i] wi (Tells wi J (d.deliver i).1 (d.deliver i).2.1 fun J' w' => Oke w J' w' p (d.deliver i).2.2) := by
  obtain ⟨O, I, hd, hO, hI, hJ, hb⟩ := h
  refine (deliver_at hd i).mono ?_
  rintro e w' ⟨u, rfl, hown, O', I', hd', hs, hdis⟩
  obtain ⟨a, c, rfl⟩ := hown.form
  obtain ⟨⟨O2, I2, h1, h2, h22, h3, h4⟩, hk⟩ := Oke.step hO hI hJ hb hd' hs
  obtain ⟨hc, hO', hI'⟩ := hs
  have hbs := hb.size
  refine ⟨a, c, _, rfl, hown, rfl, ⟨O', I', hd', fun k hk => ?_, fun k hk => ?_, fun k hk => ?_, h4⟩, hk⟩
  · refine ⟨fun hx => ?_, ?_⟩
    · rcases hx with hx | hx
      · have hkw := hJ k hx
        rcases hO' k hk with h | h
        · exact (hO k h).1 hx
        · omega
      · exact (hdis k hx).1 hk
    · rcases hO' k hk with h | h
      · exact (hO k h).2
      · omega
  · rcases hI' k hk with h | h
    · rcases hI k h with h | h
      · refine .inl fun hx => ?_
        rcases hx with hx | hx
        · exact h hx
        · exact (hdis k hx).2 hk
      · exact .inr h
    · refine .inl fun hx => ?_
      rcases hx with hx | hx
      · have := hJ k hx; omega
      · exact (hdis k hx).2 hk
  · rcases hk with hk | hk
    · exact h3 k hk
    · exact (hown.lt k hk).2
theorem Oke.find {w : Fr} {wi : World} {J : Bks} {p : Nat} {d : Nt} (h : Oke w J wi p d) (to fr : Int) :
    Calls Try.prog 19 #[.pointer (some ⟨p, 0, none⟩), .int .i64 to, .int .i64 fr] wi fun e w' => e = .returned (.tuple #[.int .i64 (d.find to fr).1, .bool (d.find to fr).2]) ∧ Oke w J w' p d ∧ Keep J wi w' := by
  have h2 := h
  obtain ⟨O, I, hd, _⟩ := h
  refine (find_at hd to fr).mono ?_
  rintro e w' ⟨rfl, hb⟩
  exact ⟨rfl, h2.still hb, Keep.of_below hb⟩
theorem Oke.send {w : Fr} {wi : World} {J : Bks} {p : Nat} {d : Nt} (h : Oke w J wi p d) (a b : Int) (l : Bs) (u : Value) (hu : BytesAt wi u l) :
    Calls Try.prog 24 #[.pointer (some ⟨p, 0, none⟩), .int .i64 a, .int .i64 b, u] wi fun e w' => e = .returned (.int .i64 (d.send a b l).1) ∧ Oke w J w' p (d.send a b l).2 ∧ Keep J wi w' :=
  h.does fun _ _ hd => send_at hd a b l u hu
end Go.Proofs.Ytbmebmkpjbgdoaa
