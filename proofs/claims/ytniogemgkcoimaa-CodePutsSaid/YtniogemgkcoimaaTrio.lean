/- Two writers and a slice of bytes, beside each other. -/
import Derived.Test.YtniogemgkcoimaaRefB
import Derived.Test.YtniogemgkcoimaaLawStays
namespace Go.Proofs.Ytniogemgkcoimaa
open Go.RowKit
theorem WrAt.chg {w w' : World} {g base : Nat} {v : Value} {l : List UInt8} {S : List Nat} (h : WrAt w g base v l) (hc : Chg S w w') (h1 : g ∉ S) (h2 : ∀ k, v.ownBlock = some k → k ∉ S) : WrAt w' g base v l :=
  ⟨hc.heap h.block h1, h.own.chg hc h2, h.lt, Nat.le_trans h.le hc.size⟩
structure Trio (W w : World) (g1 g2 base : Nat) (v1 v2 v3 : Value) (l1 l2 l3 : List UInt8) : Prop where
  one : WrAt w g1 base v1 l1
  two : WrAt w g2 base v2 l2
  three : OwnBytes base w v3 l3
  below : Below W.heap.size W w
  ne : g1 ≠ g2
  old : W.heap.size ≤ g1 ∧ W.heap.size ≤ g2
  n12 : ∀ k, v1.ownBlock = some k → v2.ownBlock ≠ some k
  n13 : ∀ k, v1.ownBlock = some k → v3.ownBlock ≠ some k
  n23 : ∀ k, v2.ownBlock = some k → v3.ownBlock ≠ some k
/-- not one of a trio's blocks -/
def Free (g1 g2 : Nat) (v1 v2 v3 : Value) (k : Nat) : Prop := k ≠ g1 ∧ k ≠ g2 ∧ v1.ownBlock ≠ some k ∧ v2.ownBlock ≠ some k ∧ v3.ownBlock ≠ some k
theorem Trio.swap {W w : World} {g1 g2 base : Nat} {v1 v2 v3 : Value} {l1 l2 l3 : List UInt8} (h : Trio W w g1 g2 base v1 v2 v3 l1 l2 l3) : Trio W w g2 g1 base v2 v1 v3 l2 l1 l3 :=
  ⟨h.two, h.one, h.three, h.below, h.ne.symm, ⟨h.old.2, h.old.1⟩, fun k h1 h2 => h.n12 k h2 h1, h.n23, h.n13⟩
theorem Trio.chg {W w w' : World} {g1 g2 base : Nat} {v1 v2 v3 : Value} {l1 l2 l3 : List UInt8} {S : List Nat} (h : Trio W w g1 g2 base v1 v2 v3 l1 l2 l3) (hc : Chg S w w') (hS : ∀ k ∈ S, Free g1 g2 v1 v2 v3 k) (hW : ∀ k ∈ S, W.heap.size ≤ k) : Trio W w' g1 g2 base v1 v2 v3 l1 l2 l3 :=
  ⟨h.one.chg hc (fun hm => (hS _ hm).1 rfl) (fun k hk hm => (hS k hm).2.2.1 hk), h.two.chg hc (fun hm => (hS _ hm).2.1 rfl) (fun k hk hm => (hS k hm).2.2.2.1 hk), h.three.chg hc (fun k hk hm => (hS k hm).2.2.2.2 hk),
    h.below.trans (hc.below h.below.size hW), h.ne, h.old, h.n12, h.n13, h.n23⟩
theorem Trio.kept {W w w' : World} {g1 g2 base : Nat} {v1 v2 v3 : Value} {l1 l2 l3 : List UInt8} {B : Nat} (h : Trio W w g1 g2 base v1 v2 v3 l1 l2 l3) (hb : Below B w w') (hB : w.heap.size ≤ B) : Trio W w' g1 g2 base v1 v2 v3 l1 l2 l3 :=
  h.chg (S := []) (Chg.of_below hb hB) (by simp) (by simp)
theorem Trio.free {W w : World} {g1 g2 base : Nat} {v1 v2 v3 : Value} {l1 l2 l3 : List UInt8} (h : Trio W w g1 g2 base v1 v2 v3 l1 l2 l3) (k : Nat) (hk : w.heap.size ≤ k) : Free g1 g2 v1 v2 v3 k := by
  have h1 := lt_of_block h.one.block
  have h2 := lt_of_block h.two.block
  exact ⟨by omega, by omega, fun e => by have := (h.one.own.lt k e).2; omega, fun e => by have := (h.two.own.lt k e).2; omega, fun e => by have := (h.three.lt k e).2; omega⟩
theorem Wr.at {w : World} {g base : Nat} {v : Value} {l : List UInt8} (h : Wr w (some ⟨g, 0, none⟩) base v l) : WrAt w g base v l := by
  rcases h with ⟨h, _⟩ | ⟨g', h, h1⟩
  · cases h
  · cases h; exact h1
theorem wset_mem {g : Nat} {v : Value} {k : Nat} (h : k ∈ wset (some ⟨g, 0, none⟩) v) : k = g ∨ v.ownBlock = some k := by
  simp only [wset, Option.toList_some, List.map_cons, List.map_nil, List.cons_append, List.nil_append, List.mem_cons, Option.mem_toList] at h
  exact h
/-- the first one is written to -/
theorem Trio.first {W w w' : World} {g1 g2 base : Nat} {v1 v2 v3 : Value} {l1 l2 l3 l1' : List UInt8} {e : Ending} (h : Trio W w g1 g2 base v1 v2 v3 l1 l2 l3) (hbase : W.heap.size ≤ base) (hp : WPost (some ⟨g1, 0, none⟩) base v1 l1' w e w') :
    e = .returned (.tuple #[]) ∧ ∃ v1', Trio W w' g1 g2 base v1' v2 v3 l1' l2 l3 ∧ (∀ k, k < w.heap.size → Free g1 g2 v1 v2 v3 k → Free g1 g2 v1' v2 v3 k) ∧ Chg (wset (some ⟨g1, 0, none⟩) v1) w w' := by
  obtain ⟨he, v', hw, hc, hpl⟩ := hp
  have hlt2 := h.two.lt
  have hlt1 := h.one.lt
  have o1 := h.one.own.lt
  have o2 := h.two.own.lt
  have o3 := h.three.lt
  have same : ∀ (k : Nat) (u : Value), u.ownBlock = some k → (∀ k, v1.ownBlock = some k → u.ownBlock ≠ some k) → k < w.heap.size → v'.ownBlock ≠ some k := fun k u hu hn hk hv => by
    rcases hpl with hpl | hpl
    · rw [hpl] at hv; exact hn k hv hu
    · have := hpl k hv; omega
  refine ⟨he, v', ⟨hw.at, h.two.chg hc (fun hm => ?_) (fun k hk hm => ?_), h.three.chg hc (fun k hk hm => ?_), h.below.trans (hc.below h.below.size fun k hm => ?_), h.ne, h.old, fun k h1 h2 => ?_, fun k h1 h2 => ?_, h.n23⟩, fun k hk hf => ?_, hc⟩
  · rcases wset_mem hm with hm | hm
    · exact h.ne hm.symm
    · have := (o1 _ hm).1; omega
  · rcases wset_mem hm with hm | hm
    · have := (o2 k hk).1; omega
    · exact h.n12 k hm hk
  · rcases wset_mem hm with hm | hm
    · have := (o3 k hk).1; omega
    · exact h.n13 k hm hk
  · rcases wset_mem hm with rfl | hm
    · exact h.old.1
    · have := (o1 k hm).1; omega
  · exact same k v2 h2 h.n12 (o2 k h2).2 h1
  · exact same k v3 h2 h.n13 (o3 k h2).2 h1
  · refine ⟨hf.1, hf.2.1, fun hv => ?_, hf.2.2.2.1, hf.2.2.2.2⟩
    rcases hpl with hpl | hpl
    · rw [hpl] at hv; exact hf.2.2.1 hv
    · have := hpl k hv; omega
theorem Free.swap {g1 g2 : Nat} {v1 v2 v3 : Value} {k : Nat} (h : Free g1 g2 v1 v2 v3 k) : Free g2 g1 v2 v1 v3 k := ⟨h.2.1, h.1, h.2.2.2.1, h.2.2.1, h.2.2.2.2⟩
theorem Trio.second {W w w' : World} {g1 g2 base : Nat} {v1 v2 v3 : Value} {l1 l2 l3 l2' : List UInt8} {e : Ending} (h : Trio W w g1 g2 base v1 v2 v3 l1 l2 l3) (hbase : W.heap.size ≤ base) (hp : WPost (some ⟨g2, 0, none⟩) base v2 l2' w e w') :
    e = .returned (.tuple #[]) ∧ ∃ v2', Trio W w' g1 g2 base v1 v2' v3 l1 l2' l3 ∧ (∀ k, k < w.heap.size → Free g1 g2 v1 v2 v3 k → Free g1 g2 v1 v2' v3 k) ∧ Chg (wset (some ⟨g2, 0, none⟩) v2) w w' := by
  obtain ⟨he, v', ht, hf, hc⟩ := h.swap.first hbase hp
  exact ⟨he, v', ht.swap, fun k hk h => (hf k hk h.swap).swap, hc⟩
/-- the slice grows -/
theorem Trio.third {W w w' : World} {g1 g2 base : Nat} {v1 v2 v3 v3' : Value} {l1 l2 l3 l3' : List UInt8} (h : Trio W w g1 g2 base v1 v2 v3 l1 l2 l3) (hbase : W.heap.size ≤ base) (hown : OwnBytes base w' v3' l3') (hg : w.grownBy w' v3.ownBlock) (hpl : Placed w v3 v3') :
    Trio W w' g1 g2 base v1 v2 v3' l1 l2 l3' := by
  have hc : Chg v3.ownBlock.toList w w' := Chg.grown (Chg.refl _ _) hg fun k hk => .inl (by simp [hk])
  have hlt2 := h.two.lt
  have hlt1 := h.one.lt
  have o1 := h.one.own.lt
  have o2 := h.two.own.lt
  have o3 := h.three.lt
  have mem : ∀ {k}, k ∈ v3.ownBlock.toList → v3.ownBlock = some k := fun hm => by simpa using hm
  refine ⟨h.one.chg hc (fun hm => ?_) (fun k hk hm => ?_), h.two.chg hc (fun hm => ?_) (fun k hk hm => ?_), hown, h.below.trans (hc.below h.below.size fun k hm => ?_), h.ne, h.old, h.n12, fun k h1 h2 => ?_, fun k h1 h2 => ?_⟩
  · have := (o3 _ (mem hm)).1; omega
  · exact h.n13 k hk (mem hm)
  · have := (o3 _ (mem hm)).1; omega
  · exact h.n23 k hk (mem hm)
  · have := (o3 _ (mem hm)).1; omega
  · rcases hpl with hpl | hpl
    · rw [hpl] at h2; exact h.n13 k h1 h2
    · have := hpl k h2; have := (o1 k h1).2; omega
  · rcases hpl with hpl | hpl
    · rw [hpl] at h2; exact h.n23 k h1 h2
    · have := hpl k h2; have := (o2 k h1).2; omega
end Go.Proofs.Ytniogemgkcoimaa
