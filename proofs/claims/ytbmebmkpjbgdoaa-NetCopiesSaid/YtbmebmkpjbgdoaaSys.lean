/- One net, two nets of the call's own, beside blocks J. -/
import Derived.Test.YtbmebmkpjbgdoaaFindN
import Derived.Shelf.Bytes.SlSmallAll
namespace Go.Proofs.Ytbmebmkpjbgdoaa
open Go.RowKit
/-- the net d at block p, whose blocks the call made, none of them in J -/
def One (w : World) (J : Bks) (wi : World) (p : Nat) (d : Nt) : Prop :=
  ∃ O I, NetAt wi O I p d ∧ (∀ k, O k ∨ I k → ¬ J k ∧ w.heap.size ≤ k) ∧ (∀ k, J k → k < wi.heap.size) ∧ Below w.heap.size w wi
theorem One.below {w wi : World} {J : Bks} {p : Nat} {d : Nt} (h : One w J wi p d) : Below w.heap.size w wi := by obtain ⟨_, _, _, _, _, h⟩ := h; exact h
theorem One.lt {w wi : World} {J : Bks} {p : Nat} {d : Nt} (h : One w J wi p d) : ∀ k, J k → k < wi.heap.size := by obtain ⟨_, _, _, _, h, _⟩ := h; exact h
theorem One.ok {w wi : World} {J : Bks} {p : Nat} {d : Nt} (h : One w J wi p d) : d.ok := by obtain ⟨_, _, h, _⟩ := h; exact h.1
theorem One.at {w wi : World} {J : Bks} {p : Nat} {d : Nt} (h : One w J wi p d) : ∃ O I, NetAt wi O I p d := by obtain ⟨_, _, h, _⟩ := h; exact ⟨_, _, h⟩
theorem One.step {w wi w' : World} {J : Bks} {p : Nat} {d' : Nt} {O I O' I' : Bks} (hO : ∀ k, O k ∨ I k → ¬ J k ∧ w.heap.size ≤ k) (hJ : ∀ k, J k → k < wi.heap.size) (hb : Below w.heap.size w wi) (h' : NetAt w' O' I' p d') (hs : Step wi O I w' O' I') : One w J w' p d' ∧ Keep J wi w' := by
  obtain ⟨hc, hO', hI'⟩ := hs
  have hn : ∀ k, wi.heap.size ≤ k → ¬ J k ∧ w.heap.size ≤ k := fun k hk => ⟨fun hj => by have := hJ k hj; omega, Nat.le_trans hb.size hk⟩
  refine ⟨⟨O', I', h', fun k hk => ?_, fun k hk => Nat.lt_of_lt_of_le (hJ k hk) hc.size, hb.trans (hc.below hb.size fun k hk => (hO k (.inl hk)).2)⟩, hc.keep fun k hk => (hO k (.inl hk)).1⟩
  rcases hk with hk | hk
  · rcases hO' k hk with h | h
    · exact hO k (.inl h)
    · exact hn k h
  · rcases hI' k hk with h | h
    · exact hO k (.inr h)
    · exact hn k h
/-- other blocks are written, or made; X are new ones -/
theorem One.write {w wi w' : World} {J C : Bks} {p : Nat} {d : Nt} (h : One w J wi p d) (hc : Chg C wi w') (hC : ∀ k, C k → J k ∧ w.heap.size ≤ k) (X : Bks) (hX : ∀ k, X k → wi.heap.size ≤ k ∧ k < w'.heap.size) : One w (fun k => J k ∨ X k) w' p d := by
  obtain ⟨O, I, hd, hO, hJ, hb⟩ := h
  have hlt := hd.lt
  refine ⟨O, I, hd.chg hc fun k hk => ⟨fun h => (hO k (.inl h)).1 (hC k hk).1, fun h => (hO k (.inr h)).1 (hC k hk).1⟩, fun k hk => ⟨fun h => ?_, (hO k hk).2⟩, fun k hk => ?_, hb.trans (hc.below hb.size fun k hk => (hC k hk).2)⟩
  · rcases h with h | h
    · exact (hO k hk).1 h
    · have := hlt k hk; have := (hX k h).1; omega
  · rcases hk with hk | hk
    · have := hJ k hk; have := hc.size; omega
    · exact (hX k hk).2
theorem One.more {w wi w' : World} {J : Bks} {p : Nat} {d : Nt} (h : One w J wi p d) (hb' : Below wi.heap.size wi w') (X : Bks) (hX : ∀ k, X k → wi.heap.size ≤ k ∧ k < w'.heap.size) : One w (fun k => J k ∨ X k) w' p d :=
  h.write (C := fun _ => False) (Chg.of_below hb' (Nat.le_refl _)) (fun _ h => h.elim) X hX
theorem One.narrow {w wi : World} {J J' : Bks} {p : Nat} {d : Nt} (h : One w J wi p d) (hJ : ∀ k, J' k → J k) : One w J' wi p d := by
  obtain ⟨O, I, hd, hO, hl, hb⟩ := h
  exact ⟨O, I, hd, fun k hk => ⟨fun hj => (hO k hk).1 (hJ k hj), (hO k hk).2⟩, fun k hk => hl k (hJ k hk), hb⟩
theorem One.still {w wi w' : World} {J : Bks} {p : Nat} {d : Nt} (h : One w J wi p d) (hb' : Below wi.heap.size wi w') : One w J w' p d := (h.more hb' (fun _ => False) fun _ h => h.elim).narrow fun _ h => .inl h
theorem One.does {w wi : World} {J : Bks} {p f : Nat} {d d' : Nt} {args : Array Value} {r : Int} (h : One w J wi p d) (hc : ∀ O I, NetAt wi O I p d → Calls Try.prog f args wi (Does wi O I p r d')) :
    Calls Try.prog f args wi fun e w' => e = .returned (.int .i64 r) ∧ One w J w' p d' ∧ Keep J wi w' := by
  obtain ⟨O, I, hd, hO, hJ, hb⟩ := h
  refine (hc O I hd).mono ?_
  rintro e w' ⟨rfl, O', I', hd', hs⟩
  exact ⟨rfl, One.step hO hJ hb hd' hs⟩
theorem One.of_fresh {w w' : World} {p : Nat} {d : Nt} (h : Fresh w d w' p) : One w (fun _ => False) w' p d := by
  obtain ⟨O, I, hd, hO, hb⟩ := h
  exact ⟨O, I, hd, fun k hk => ⟨id, hO k hk⟩, fun _ h => h.elim, hb⟩
/-- a message that a call hands back: its bytes in a block X of its own -/
def Tells (wi : World) (J : Bks) (m : Msg) (r : Int) (P : Bks → World → Prop) (e : Ending) (w' : World) : Prop :=
  ∃ a c X, e = .returned (.tuple #[.agg #[.int .i64 m.fr, .int .i64 m.to, .slice a m.b.length c], .int .i64 r]) ∧ OwnBytes wi.heap.size w' (.slice a m.b.length c) m.b ∧ X = (fun k => (Value.slice a m.b.length c).ownBlock = some k) ∧ P (fun k => J k ∨ X k) w' ∧ Keep J wi w'
theorem One.tell {w wi : World} {J : Bks} {p : Nat} {d : Nt} (h : One w J wi p d) (i : Int) :
    Calls Try.prog 17 #[.pointer (some ⟨p, 0, none⟩), .int .i64 i] wi (Tells wi J (d.at i).1 (d.at i).2 fun J' w' => One w J' w' p d) := by
  have h2 := h
  obtain ⟨O, I, ⟨ho, sv, vs, hd⟩, hO, hJ, hb⟩ := h
  refine (at_any hd ho i).mono ?_
  rintro e w' ⟨u, rfl, hown, hbl⟩
  obtain ⟨a, c, rfl⟩ := hown.form
  exact ⟨a, c, _, rfl, hown, rfl, h2.more hbl _ fun k hk => hown.lt k hk, Keep.of_below hbl⟩
theorem One.deliver {w wi : World} {J : Bks} {p : Nat} {d : Nt} (h : One w J wi p d) (i : Int) :
    Calls Try.prog 18 #[.pointer (some ⟨p, 0, none⟩), .int .i64 i] wi (Tells wi J (d.deliver i).1 (d.deliver i).2.1 fun J' w' => One w J' w' p (d.deliver i).2.2) := by
  obtain ⟨O, I, hd, hO, hJ, hb⟩ := h
  refine (deliver_at hd i).mono ?_
  rintro e w' ⟨u, rfl, hown, O', I', hd', hs, hdis⟩
  obtain ⟨a, c, rfl⟩ := hown.form
  obtain ⟨⟨O2, I2, h1, h2, h3, h4⟩, hk⟩ := One.step hO hJ hb hd' hs
  refine ⟨a, c, _, rfl, hown, rfl, ⟨O', I', hd', fun k hk => ?_, fun k hk => ?_, h4⟩, hk⟩
  · obtain ⟨hc, hO', hI'⟩ := hs
    refine ⟨fun hx => ?_, ?_⟩
    · rcases hx with hx | hx
      · have hkw := hJ k hx
        rcases hk with hk | hk
        · rcases hO' k hk with h | h
          · exact (hO k (.inl h)).1 hx
          · omega
        · rcases hI' k hk with h | h
          · exact (hO k (.inr h)).1 hx
          · omega
      · rcases hk with hk | hk
        · exact (hdis k hx).1 hk
        · exact (hdis k hx).2 hk
    · have hbs := hb.size
      rcases hk with hk | hk
      · rcases hO' k hk with h | h
        · exact (hO k (.inl h)).2
        · omega
      · rcases hI' k hk with h | h
        · exact (hO k (.inr h)).2
        · omega
  · rcases hk with hk | hk
    · exact h3 k hk
    · exact (hown.lt k hk).2
theorem One.find {w wi : World} {J : Bks} {p : Nat} {d : Nt} (h : One w J wi p d) (to fr : Int) :
    Calls Try.prog 19 #[.pointer (some ⟨p, 0, none⟩), .int .i64 to, .int .i64 fr] wi fun e w' => e = .returned (.tuple #[.int .i64 (d.find to fr).1, .bool (d.find to fr).2]) ∧ One w J w' p d ∧ Keep J wi w' := by
  have h2 := h
  obtain ⟨O, I, hd, _⟩ := h
  refine (find_at hd to fr).mono ?_
  rintro e w' ⟨rfl, hb⟩
  exact ⟨rfl, h2.still hb, Keep.of_below hb⟩
theorem One.len {w wi : World} {J : Bks} {p : Nat} {d : Nt} (h : One w J wi p d) : Calls Try.prog 21 #[.pointer (some ⟨p, 0, none⟩)] wi fun e w' => e = .returned (.int .i64 (d.bag.length : Nat)) ∧ wi = w' := by
  obtain ⟨O, I, ⟨ho, sv, vs, hd⟩, _⟩ := h
  exact hd.lenC ho
theorem One.opens {w wi : World} {J : Bks} {p : Nat} {d : Nt} (h : One w J wi p d) (a b : Int) : Calls Try.prog 22 #[.pointer (some ⟨p, 0, none⟩), .int .i64 a, .int .i64 b] wi fun e w' => e = .returned (.bool (d.isOpen a b)) ∧ wi = w' := by
  obtain ⟨O, I, ⟨ho, sv, vs, hd⟩, _⟩ := h
  exact open_at hd ho a b
theorem string_bytes {W : World} {I : Bks} {v : Value} {l : List UInt8} (h : BytesIn I W v l) : (convert 31 9 v).run Try.prog W = .ok (.string ⟨l.toArray⟩) W := by
  rcases h with ⟨rfl, rfl⟩ | ⟨ad, cap, rfl, hl, hc⟩
  · exact run_convert_bytes_nil W 31 5 Try.underlying31 Try.underlying5 0 0 9 Try.underlying9
  · rcases Nat.eq_zero_or_pos l.length with h0 | hpos
    · obtain rfl : l = [] := List.eq_nil_of_length_eq_zero h0
      exact run_convert_bytes_zero W 31 5 Try.underlying31 Try.underlying5 (some ad) cap 9 Try.underlying9
    · obtain ⟨b, off, rfl, hb, hc⟩ := hc hpos
      rw [run_convert_bytes_arg W 31 5 Try.underlying31 Try.underlying5 b off l.length cap (l.map fun y => (y.toNat : Int)) (by simp) (fun i hi => by rw [hc i hi]; simp [hi]) 9 Try.underlying9]
      congr 2
      unfold strOfNums
      have e : ((fun n : Int => UInt8.ofNat n.toNat) ∘ fun y : UInt8 => (y.toNat : Int)) = id := by funext y; simp
      simp [e]
/-- a literal's row, with the mark of a constant string behind it, reads as its bytes -/
theorem mark_bytes (w : World) (l : Bs) (cs : Array Value) (fr : Nat × Nat) (hcs : cs = (l.map byteV).toArray) (hl : l.length ≤ 100) : BytesAt (w.alloc (.cells cs 5 fr)) (.slice (some ⟨w.heap.size, 0, none⟩) l.length l.length) l := by
  subst hcs
  refine BytesIn.mk' w.heap.size 0 _ (by unfold maxLen; omega) (fun _ => ⟨by rw [World.size_alloc]; omega, trivial⟩) fun j hj => ?_
  rw [Nat.zero_add, World.cell?_alloc_mark, List.getElem?_toArray]
  exact getD_cell l j hj
theorem One.send {w wi : World} {J : Bks} {p : Nat} {d : Nt} (h : One w J wi p d) (a b : Int) (l : Bs) (u : Value) (hu : BytesAt wi u l) :
    Calls Try.prog 24 #[.pointer (some ⟨p, 0, none⟩), .int .i64 a, .int .i64 b, u] wi fun e w' => e = .returned (.int .i64 (d.send a b l).1) ∧ One w J w' p (d.send a b l).2 ∧ Keep J wi w' :=
  h.does fun _ _ hd => send_at hd a b l u hu
theorem One.sendLit {w wi : World} {J : Bks} {p : Nat} {d : Nt} (h : One w J wi p d) (a b : Int) (l : Bs) (cs : Array Value) (fr : Nat × Nat) (hcs : cs = (l.map byteV).toArray) (hl : l.length ≤ 100) :
    Calls Try.prog 24 #[.pointer (some ⟨p, 0, none⟩), .int .i64 a, .int .i64 b, .slice (some ⟨wi.heap.size, 0, none⟩) l.length l.length] (wi.alloc (.cells cs 5 fr)) fun e w' => e = .returned (.int .i64 (d.send a b l).1) ∧ One w J w' p (d.send a b l).2 ∧ Keep J wi w' := by
  have h2 := h.still (Go.Joins.below_alloc1 wi (.cells cs 5 fr))
  refine (h2.send a b l _ (mark_bytes wi l cs fr hcs hl)).mono ?_
  rintro e w' ⟨rfl, h3, h4⟩
  exact ⟨rfl, h3, (Keep.of_below (Go.Joins.below_alloc1 wi (.cells cs 5 fr))).trans h4⟩
end Go.Proofs.Ytbmebmkpjbgdoaa
