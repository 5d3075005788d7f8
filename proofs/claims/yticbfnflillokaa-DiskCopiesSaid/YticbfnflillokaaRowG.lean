/- The disk and the document's disk, side by side, beside blocks K; both may read blocks S that others read, too. -/
import Derived.Test.YticbfnflillokaaRowE
namespace Go.Proofs.Yticbfnflillokaa
open Go.RowKit
/-- the world in which the law began, the world behind which new blocks are, and blocks that nobody writes -/
structure Fr where
  w0 : World
  wb : World
  S : Bks
@[reducible] def Fr.heap (f : Fr) : Array Obj := f.wb.heap
/-- the net d at block p, whose blocks the call made, none of them in J, but for those that it reads alone -/
def Oke (w : Fr) (J : Bks) (wi : World) (p N : Nat) (d : Dk) : Prop :=
  ∃ O I, DiskAt wi O I p N d ∧ (∀ k, O k → ¬ J k ∧ w.w0.heap.size ≤ k) ∧ (∀ k, I k → ¬ J k ∨ w.S k) ∧ (∀ k, J k → k < wi.heap.size) ∧ Below w.w0.heap.size w.w0 wi
theorem Oke.below {w : Fr} {wi : World} {J : Bks} {p N : Nat} {d : Dk} (h : Oke w J wi p N d) : Below w.w0.heap.size w.w0 wi := by obtain ⟨_, _, _, _, _, _, h⟩ := h; exact h
theorem Oke.lt {w : Fr} {wi : World} {J : Bks} {p N : Nat} {d : Dk} (h : Oke w J wi p N d) : ∀ k, J k → k < wi.heap.size := by obtain ⟨_, _, _, _, _, h, _⟩ := h; exact h
theorem Oke.ok {w : Fr} {wi : World} {J : Bks} {p N : Nat} {d : Dk} (h : Oke w J wi p N d) : d.ok := by obtain ⟨_, _, h, _⟩ := h; exact h.ok
theorem Oke.step {w : Fr} {wi w' : World} {J : Bks} {p N : Nat} {d' : Dk} {O I O' I' : Bks} (hO : ∀ k, O k → ¬ J k ∧ w.w0.heap.size ≤ k) (hI : ∀ k, I k → ¬ J k ∨ w.S k) (hJ : ∀ k, J k → k < wi.heap.size) (hb : Below w.w0.heap.size w.w0 wi) (h' : DiskAt w' O' I' p N d') (hs : Step wi O I w' O' I') : Oke w J w' p N d' ∧ Keep J wi w' := by
  obtain ⟨hc, hO', hI'⟩ := hs
  have hn : ∀ k, wi.heap.size ≤ k → ¬ J k := fun k hk hj => by have := hJ k hj; omega
  refine ⟨⟨O', I', h', fun k hk => ?_, fun k hk => ?_, fun k hk => Nat.lt_of_lt_of_le (hJ k hk) hc.size, hb.trans (hc.below hb.size fun k hk => (hO k hk).2)⟩, hc.keep fun k hk => (hO k hk).1⟩
  · rcases hO' k hk with h | h
    · exact hO k h
    · exact ⟨hn k h, Nat.le_trans hb.size h⟩
  · rcases hI' k hk with h | h
    · exact hI k h
    · exact .inl (hn k h)
/-- other blocks are written, or made; X are new ones -/
theorem Oke.write {w : Fr} {wi w' : World} {J C : Bks} {p N : Nat} {d : Dk} (h : Oke w J wi p N d) (hc : Chg C wi w') (hC : ∀ k, C k → J k ∧ ¬ w.S k ∧ w.w0.heap.size ≤ k) (X : Bks) (hX : ∀ k, X k → wi.heap.size ≤ k ∧ k < w'.heap.size) : Oke w (fun k => J k ∨ X k) w' p N d := by
  obtain ⟨O, I, hd, hO, hI, hJ, hb⟩ := h
  have hlt := hd.lt
  refine ⟨O, I, hd.chg hc fun k hk => ⟨fun h => (hO k h).1 (hC k hk).1, fun h => (hI k h).elim (fun h => h (hC k hk).1) fun h => (hC k hk).2.1 h⟩, fun k hk => ⟨fun h => ?_, (hO k hk).2⟩, fun k hk => ?_, fun k hk => ?_, hb.trans (hc.below hb.size fun k hk => (hC k hk).2.2)⟩
  · rcases h with h | h
    · exact (hO k hk).1 h
    · have := hlt k (.inl hk); have := (hX k h).1; omega
  · rcases hI k hk with h | h
    · refine .inl fun h2 => ?_
      rcases h2 with h2 | h2
      · exact h h2
      · have := hlt k (.inr hk); have := (hX k h2).1; omega
    · exact .inr h
  · rcases hk with hk | hk
    · have := hJ k hk; have := hc.size; omega
    · exact (hX k hk).2
theorem Oke.more {w : Fr} {wi w' : World} {J : Bks} {p N : Nat} {d : Dk} (h : Oke w J wi p N d) (hb' : Below wi.heap.size wi w') (X : Bks) (hX : ∀ k, X k → wi.heap.size ≤ k ∧ k < w'.heap.size) : Oke w (fun k => J k ∨ X k) w' p N d :=
  h.write (C := fun _ => False) (Chg.of_below hb' (Nat.le_refl _)) (fun _ h => h.elim) X hX
theorem Oke.narrow {w : Fr} {wi : World} {J J' : Bks} {p N : Nat} {d : Dk} (h : Oke w J wi p N d) (hJ : ∀ k, J' k → J k) : Oke w J' wi p N d := by
  obtain ⟨O, I, hd, hO, hI, hl, hb⟩ := h
  exact ⟨O, I, hd, fun k hk => ⟨fun hj => (hO k hk).1 (hJ k hj), (hO k hk).2⟩, fun k hk => (hI k hk).imp (fun h hj => h (hJ k hj)) id, fun k hk => hl k (hJ k hk), hb⟩
theorem Oke.still {w : Fr} {wi w' : World} {J : Bks} {p N : Nat} {d : Dk} (h : Oke w J wi p N d) (hb' : Below wi.heap.size wi w') : Oke w J w' p N d := (h.more hb' (fun _ => False) fun _ h => h.elim).narrow fun _ h => .inl h
theorem Oke.does {w : Fr} {wi : World} {J : Bks} {p N N' f : Nat} {d d' : Dk} {args : Array Value} {r : Int} (h : Oke w J wi p N d) (hc : ∀ O I, DiskAt wi O I p N d → Calls Try.prog f args wi (Does wi O I p N' r d')) :
    Calls Try.prog f args wi fun e w' => e = .returned (.int .i64 r) ∧ Oke w J w' p N' d' ∧ Keep J wi w' := by
  obtain ⟨O, I, hd, hO, hI, hJ, hb⟩ := h
  refine (hc O I hd).mono ?_
  rintro e w' ⟨rfl, O', I', hd', hs⟩
  exact ⟨rfl, Oke.step hO hI hJ hb hd' hs⟩
theorem Oke.wipe {w : Fr} {wi : World} {J : Bks} {p N : Nat} {d : Dk} (h : Oke w J wi p N d) (hN : N ≤ 400000) : Calls Try.prog 15 #[.pointer (some ⟨p, 0, none⟩)] wi fun e w' => e = .returned (.tuple #[]) ∧ Oke w J w' p (N + 1) d.wipe ∧ Keep J wi w' := by
  obtain ⟨O, I, hd, hO, hI, hJ, hb⟩ := h
  refine (wipe_any hd hN).mono ?_
  rintro e w' ⟨rfl, O', I', hd', hs⟩
  exact ⟨rfl, Oke.step hO hI hJ hb hd' hs⟩
theorem Oke.mono {w : Fr} {wi : World} {J : Bks} {p N N' : Nat} {d : Dk} (h : Oke w J wi p N d) (hN : N ≤ N') : Oke w J wi p N' d := by
  obtain ⟨O, I, hd, r⟩ := h; exact ⟨O, I, hd.mono hN, r⟩
theorem Keep.mono {I J : Bks} {a b : World} (h : Keep J a b) (hi : ∀ k, I k → J k) : Keep I a b := Keep.narrow h hi
/-- what has come since the law began -/
structure Since (w : Fr) (wi : World) : Prop where
  size : w.heap.size ≤ wi.heap.size
  all : Below w.w0.heap.size w.w0 wi
/-- the net d at block p, the document's net e at block q; both the call's own, none of their blocks in K, but for those that nobody writes -/
def Duo (w : Fr) (K : Bks) (wi : World) (p q N M : Nat) (d e : Dk) : Prop := ∃ R : Bks, Oke w (fun k => K k ∨ R k ∨ k = q) wi p N d ∧ RefAt wi R q M e ∧ (∀ k, R k → ¬ K k ∨ w.S k) ∧ (¬ K q ∧ ¬ w.S q ∧ w.w0.heap.size ≤ q) ∧ (∀ k, w.S k → k < w.heap.size) ∧ w.w0.heap.size ≤ w.heap.size ∧ w.heap.size ≤ wi.heap.size
theorem Duo.below {w : Fr} {wi : World} {K : Bks} {p q N M : Nat} {d e : Dk} (h : Duo w K wi p q N M d e) : Since w wi := by obtain ⟨_, h, _, _, _, _, _, h2⟩ := h; exact ⟨h2, h.below⟩
theorem Duo.lt {w : Fr} {wi : World} {K : Bks} {p q N M : Nat} {d e : Dk} (h : Duo w K wi p q N M d e) : ∀ k, K k → k < wi.heap.size := fun k hk => by obtain ⟨_, h, _⟩ := h; exact h.lt k (.inl hk)
/-- a call of the disk's -/
theorem Duo.net {w : Fr} {wi : World} {K : Bks} {p q N N' M f : Nat} {args : Array Value} {d d' e : Dk} {A : Ending → Prop} (h : Duo w K wi p q N M d e) (hc : ∀ J, Oke w J wi p N d → Calls Try.prog f args wi fun en w' => A en ∧ Oke w J w' p N' d' ∧ Keep J wi w') :
    Calls Try.prog f args wi fun en w' => A en ∧ Duo w K w' p q N' M d' e ∧ Keep K wi w' := by
  obtain ⟨R, h1, h2, h3, h4, h5, h6, h7⟩ := h
  refine (hc _ h1).mono ?_
  rintro en w' ⟨ha, k1, k2⟩
  exact ⟨ha, ⟨R, k1, h2.keep k2 fun k hk => .inr hk, h3, h4, h5, h6, Nat.le_trans h7 k2.1⟩, k2.mono fun k hk => .inl hk⟩
/-- what a call of the document's net has done -/
theorem Duo.refd {w : Fr} {wi w' : World} {K R : Bks} {p q N M : Nat} {d e' : Dk} (h1 : Oke w (fun k => K k ∨ R k ∨ k = q) wi p N d) (h3 : ∀ k, R k → ¬ K k ∨ w.S k) (h4 : ¬ K q ∧ ¬ w.S q ∧ w.w0.heap.size ≤ q) (h5 : ∀ k, w.S k → k < w.heap.size) (h6 : w.w0.heap.size ≤ w.heap.size) (h7 : w.heap.size ≤ wi.heap.size) (hd : RDoes wi R q M e' w') : Duo w K w' p q N M d e' ∧ Keep K wi w' := by
  obtain ⟨R', k1, k2, k3⟩ := hd
  have hKl : ∀ k, K k → k < wi.heap.size := fun k hk => h1.lt k (.inl hk)
  refine ⟨⟨R', (h1.write k3 (fun k hk => by subst hk; exact ⟨.inr (.inr rfl), h4.2⟩) (fun k => R' k ∧ wi.heap.size ≤ k) fun k hk => ⟨hk.2, k1.lt k hk.1⟩).narrow fun k hk => ?_, k1, fun k hk => ?_, h4, h5, h6, Nat.le_trans h7 k3.size⟩, k3.keep fun k hk hK => by subst hk; exact h4.1 hK⟩
  · rcases hk with hk | hk | hk
    · exact .inl (.inl hk)
    · rcases k2 k hk with h | h
      · exact .inl (.inr (.inl h))
      · exact .inr ⟨hk, h⟩
    · exact .inl (.inr (.inr hk))
  · rcases k2 k hk with h | h
    · exact h3 k h
    · exact .inl fun hK => by have := hKl k hK; omega
/-- a call of the document's net's -/
theorem Duo.ref {w : Fr} {wi : World} {K : Bks} {p q N M M' f : Nat} {args : Array Value} {d e e' : Dk} {A : Ending → Prop} (h : Duo w K wi p q N M d e) (hc : ∀ R, RefAt wi R q M e → Calls Try.prog f args wi fun en w' => A en ∧ RDoes wi R q M' e' w') :
    Calls Try.prog f args wi fun en w' => A en ∧ Duo w K w' p q N M' d e' ∧ Keep K wi w' := by
  obtain ⟨R, h1, h2, h3, h4, h5, h6, h7⟩ := h
  refine (hc _ h2).mono ?_
  rintro en w' ⟨ha, hd⟩
  exact ⟨ha, Duo.refd h1 h3 h4 h5 h6 h7 hd⟩
/-- blocks of the caller's are written, or made; X are new ones -/
theorem Duo.write {w : Fr} {wi w' : World} {K C : Bks} {p q N M : Nat} {d e : Dk} (h : Duo w K wi p q N M d e) (hc : Chg C wi w') (hC : ∀ k, C k → K k ∧ w.heap.size ≤ k) (X : Bks) (hX : ∀ k, X k → wi.heap.size ≤ k ∧ k < w'.heap.size) : Duo w (fun k => K k ∨ X k) w' p q N M d e := by
  obtain ⟨R, h1, h2, h3, h4, h5, h6, h7⟩ := h
  have hq : q < wi.heap.size := h2.q_lt
  have hS : ∀ k, C k → ¬ w.S k := fun k hk hs => by have := h5 k hs; have := (hC k hk).2; omega
  refine ⟨R, (h1.write hc (fun k hk => ⟨.inl (hC k hk).1, hS k hk, Nat.le_trans h6 (hC k hk).2⟩) X hX).narrow fun k hk => ?_, h2.keep (I := fun k => ¬ C k) (hc.keep fun k hk hn => hn hk) fun k hk hCk => ?_, fun k hk => ?_, ⟨fun hK => ?_, h4.2⟩, h5, h6, Nat.le_trans h7 hc.size⟩
  · rcases hk with (hk | hk) | hk | hk
    · exact .inl (.inl hk)
    · exact .inr hk
    · exact .inl (.inr (.inl hk))
    · exact .inl (.inr (.inr hk))
  · rcases hk with hk | hk
    · exact (h3 k hk).elim (fun h => h (hC k hCk).1) (hS k hCk)
    · subst hk; exact h4.1 (hC _ hCk).1
  · rcases h3 k hk with h | h
    · refine .inl fun hK => ?_
      rcases hK with hK | hK
      · exact h hK
      · have := h2.lt k hk; have := (hX k hK).1; omega
    · exact .inr h
  · rcases hK with hK | hK
    · exact h4.1 hK
    · have := (hX q hK).1; omega
theorem Duo.narrow {w : Fr} {wi : World} {K K' : Bks} {p q N M : Nat} {d e : Dk} (h : Duo w K wi p q N M d e) (hK : ∀ k, K' k → K k) : Duo w K' wi p q N M d e := by
  obtain ⟨R, h1, h2, h3, h4, h5⟩ := h
  exact ⟨R, h1.narrow fun k hk => hk.imp (hK k) id, h2, fun k hk => (h3 k hk).imp (fun h hj => h (hK k hj)) id, ⟨fun h => h4.1 (hK q h), h4.2⟩, h5⟩
theorem Duo.still {w : Fr} {wi w' : World} {K : Bks} {p q N M : Nat} {d e : Dk} (h : Duo w K wi p q N M d e) (hb : Below wi.heap.size wi w') : Duo w K w' p q N M d e :=
  (h.write (C := fun _ => False) (Chg.of_below hb (Nat.le_refl _)) (fun _ h => h.elim) (fun _ => False) fun _ h => h.elim).narrow fun _ h => .inl h
end Go.Proofs.Yticbfnflillokaa
