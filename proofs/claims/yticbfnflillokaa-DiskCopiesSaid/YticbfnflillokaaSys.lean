/- One disk, two disks of the call's own, beside blocks J that stay. -/
import Derived.Test.YticbfnflillokaaCopyD
import Derived.Shelf.Bytes.SlSmallAll
namespace Go.Proofs.Yticbfnflillokaa
open Go.RowKit Go.Maps Go.WideMaps
abbrev Bks := Nat → Prop
def One (w : World) (J : Bks) (wi : World) (p N : Nat) (d : Dk) : Prop :=
  ∃ O I, DiskAt wi O I p N d ∧ (∀ k, O k → ¬ J k ∧ w.heap.size ≤ k) ∧ (∀ k, J k → k < wi.heap.size) ∧ Below w.heap.size w wi
theorem DiskAt.lt {w : World} {O I : Nat → Prop} {p N : Nat} {d : Dk} (h : DiskAt w O I p N d) : ∀ k, O k ∨ I k → k < w.heap.size := by obtain ⟨n1, n2, h⟩ := h.raw; exact h.lt
theorem DiskAt.di {w : World} {O I : Nat → Prop} {p N : Nat} {d : Dk} (h : DiskAt w O I p N d) : ∀ k, O k → ¬ I k := by obtain ⟨n1, n2, h⟩ := h.raw; exact h.di
theorem One.below {w wi : World} {J : Bks} {p N : Nat} {d : Dk} (h : One w J wi p N d) : Below w.heap.size w wi := by obtain ⟨_, _, _, _, _, h⟩ := h; exact h
theorem One.step {w wi w' : World} {J : Bks} {p N N' : Nat} {d d' : Dk} {O I O' I' : Bks} (_h : DiskAt wi O I p N d) (hO : ∀ k, O k → ¬ J k ∧ w.heap.size ≤ k) (hJ : ∀ k, J k → k < wi.heap.size) (hb : Below w.heap.size w wi) (h' : DiskAt w' O' I' p N' d') (hs : Step wi O I w' O' I') : One w J w' p N' d' ∧ Keep J wi w' := by
  obtain ⟨hc, hO', _⟩ := hs
  refine ⟨⟨O', I', h', fun k hk => ?_, fun k hk => Nat.lt_of_lt_of_le (hJ k hk) hc.size, hb.trans (hc.below hb.size fun k hk => (hO k hk).2)⟩, hc.keep fun k hk => (hO k hk).1⟩
  rcases hO' k hk with h | h
  · exact hO k h
  · exact ⟨fun hj => by have := hJ k hj; omega, Nat.le_trans hb.size h⟩
theorem One.does {w wi : World} {J : Bks} {p N N' f : Nat} {d d' : Dk} {args : Array Value} {r : Int} (h : One w J wi p N d) (hc : ∀ O I, DiskAt wi O I p N d → Calls Try.prog f args wi (Does wi O I p N' r d')) :
    Calls Try.prog f args wi fun e w' => e = .returned (.int .i64 r) ∧ One w J w' p N' d' ∧ Keep J wi w' := by
  obtain ⟨O, I, hd, hO, hJ, hb⟩ := h
  refine (hc O I hd).mono ?_
  rintro e w' ⟨rfl, O', I', hd', hs⟩
  exact ⟨rfl, One.step hd hO hJ hb hd' hs⟩
/-- new blocks, of which X stay -/
theorem One.more {w wi w' : World} {J : Bks} {p N : Nat} {d : Dk} (h : One w J wi p N d) (hb' : Below wi.heap.size wi w') (X : Bks) (hX : ∀ k, X k → wi.heap.size ≤ k ∧ k < w'.heap.size) : One w (fun k => J k ∨ X k) w' p N d ∧ Keep J wi w' := by
  obtain ⟨O, I, hd, hO, hJ, hb⟩ := h
  refine ⟨⟨O, I, hd.below hb' (Nat.le_refl _), fun k hk => ⟨fun h => ?_, (hO k hk).2⟩, fun k hk => ?_, hb.trans (hb'.mono hb.size)⟩, hb'.size, fun k _ hl => hb'.block k hl⟩
  · rcases h with h | h
    · exact (hO k hk).1 h
    · have := hd.lt k (.inl hk); have := (hX k h).1; omega
  · rcases hk with hk | hk
    · have := hJ k hk; have := hb'.size; omega
    · exact (hX k hk).2
theorem One.still {w wi w' : World} {J : Bks} {p N : Nat} {d : Dk} (h : One w J wi p N d) (hb' : Below wi.heap.size wi w') : One w J w' p N d ∧ Keep J wi w' := by
  obtain ⟨⟨O, I, hd, hO, hJ, hb⟩, hk⟩ := h.more hb' (fun _ => False) fun _ h => h.elim
  exact ⟨⟨O, I, hd, fun k h => ⟨fun hj => (hO k h).1 (.inl hj), (hO k h).2⟩, fun k hk => hJ k (.inl hk), hb⟩, hk⟩
theorem One.of_fresh {w w' : World} {p N : Nat} {d : Dk} (h : Fresh w N d w' p) : One w (fun _ => False) w' p N d := by
  obtain ⟨O, I, hd, hO, hb⟩ := h
  exact ⟨O, I, hd, fun k hk => ⟨id, hO k (.inl hk)⟩, fun _ h => h.elim, hb⟩
theorem One.mono {w wi : World} {J : Bks} {p N N' : Nat} {d : Dk} (h : One w J wi p N d) (hN : N ≤ N') : One w J wi p N' d := by
  obtain ⟨O, I, hd, r⟩ := h; exact ⟨O, I, hd.mono hN, r⟩
/-- Read, in such a world -/
theorem One.read {w wi : World} {J : Bks} {p N : Nat} {d : Dk} (h : One w J wi p N d) (k : Bs) (hk : k.length ≤ maxLen) : Calls Try.prog 18 #[.pointer (some ⟨p, 0, none⟩), .string ⟨k.toArray⟩] wi fun e w' =>
    ∃ a n c, ∃ X : Bks, e = .returned (.tuple #[.slice a n c, .int .i64 (lack d k [])]) ∧ BytesIn (fun i => J i ∨ X i) w' (.slice a n c) (if lack d k [] = 0 then (d.seen.get k).getD [] else []) ∧ One w (fun i => J i ∨ X i) w' p N d ∧ Keep J wi w' := by
  have h2 := h
  obtain ⟨O, I, hd, _⟩ := h
  refine (read_any hd k hk).mono ?_
  rintro e w' ⟨v, rfl, ho, hb⟩
  have hlt := ho.lt
  obtain ⟨a, c, hv⟩ := ho.form
  have hm := h2.more hb (fun i => v.ownBlock = some i) fun i hi => hlt i hi
  subst hv
  exact ⟨a, _, c, _, rfl, ho.bytesIn.wide fun i _ hi => .inr hi, hm⟩
def Two (w : World) (J : Bks) (wi : World) (p N : Nat) (d : Dk) (q M : Nat) (c : Dk) : Prop :=
  ∃ O I O2 I2, DiskAt wi O I p N d ∧ DiskAt wi O2 I2 q M c ∧ (∀ k, O k → ¬ J k ∧ w.heap.size ≤ k) ∧ (∀ k, O2 k → ¬ J k ∧ w.heap.size ≤ k) ∧ (∀ k, O k → ¬ O2 k ∧ ¬ I2 k) ∧ (∀ k, O2 k → ¬ I k) ∧ (∀ k, J k → k < wi.heap.size) ∧ Below w.heap.size w wi
theorem Two.swap {w wi : World} {J : Bks} {p N q M : Nat} {d c : Dk} (h : Two w J wi p N d q M c) : Two w J wi q M c p N d := by
  obtain ⟨O, I, O2, I2, h1, h2, hO, hO2, hs, hs2, hJ, hb⟩ := h
  exact ⟨O2, I2, O, I, h2, h1, hO2, hO, fun k hk => ⟨fun h => (hs k h).1 hk, hs2 k hk⟩, fun k hk => (hs k hk).2, hJ, hb⟩
theorem Two.one {w wi : World} {J : Bks} {p N q M : Nat} {d c : Dk} (h : Two w J wi p N d q M c) : One w J wi p N d := by
  obtain ⟨O, I, O2, I2, h1, h2, hO, hO2, hs, hs2, hJ, hb⟩ := h
  exact ⟨O, I, h1, hO, hJ, hb⟩
theorem Two.step {w wi w' : World} {J : Bks} {p N N' q M : Nat} {d d' c : Dk} {O I O2 I2 O' I' : Bks} (_h1 : DiskAt wi O I p N d) (h2 : DiskAt wi O2 I2 q M c) (hO : ∀ k, O k → ¬ J k ∧ w.heap.size ≤ k) (hO2 : ∀ k, O2 k → ¬ J k ∧ w.heap.size ≤ k) (hs : ∀ k, O k → ¬ O2 k ∧ ¬ I2 k) (hs2 : ∀ k, O2 k → ¬ I k) (hJ : ∀ k, J k → k < wi.heap.size) (hb : Below w.heap.size w wi)
    (h' : DiskAt w' O' I' p N' d') (hst : Step wi O I w' O' I') : Two w J w' p N' d' q M c ∧ Keep J wi w' := by
  obtain ⟨hc, hO', hI'⟩ := hst
  have hlt := h2.lt
  refine ⟨⟨O', I', O2, I2, h', h2.chg hc fun k hk => hs k hk, fun k hk => ?_, hO2, fun k hk => ?_, fun k hk hI => ?_, fun k hk => Nat.lt_of_lt_of_le (hJ k hk) hc.size, hb.trans (hc.below hb.size fun k hk => (hO k hk).2)⟩, hc.keep fun k hk => (hO k hk).1⟩
  · rcases hO' k hk with h | h
    · exact hO k h
    · exact ⟨fun hj => by have := hJ k hj; omega, Nat.le_trans hb.size h⟩
  · rcases hO' k hk with h | h
    · exact hs k h
    · exact ⟨fun h2 => by have := hlt k (.inl h2); omega, fun h2 => by have := hlt k (.inr h2); omega⟩
  · rcases hI' k hI with h | h
    · exact hs2 k hk h
    · have := hlt k (.inl hk); omega
theorem Two.does {w wi : World} {J : Bks} {p N N' q M f : Nat} {d d' c : Dk} {args : Array Value} {r : Int} (h : Two w J wi p N d q M c) (hc : ∀ O I, DiskAt wi O I p N d → Calls Try.prog f args wi (Does wi O I p N' r d')) :
    Calls Try.prog f args wi fun e w' => e = .returned (.int .i64 r) ∧ Two w J w' p N' d' q M c ∧ Keep J wi w' := by
  obtain ⟨O, I, O2, I2, h1, h2, hO, hO2, hs, hs2, hJ, hb⟩ := h
  refine (hc O I h1).mono ?_
  rintro e w' ⟨rfl, O', I', hd', hst⟩
  exact ⟨rfl, Two.step h1 h2 hO hO2 hs hs2 hJ hb hd' hst⟩
theorem Two.more {w wi w' : World} {J : Bks} {p N q M : Nat} {d c : Dk} (h : Two w J wi p N d q M c) (hb' : Below wi.heap.size wi w') (X : Bks) (hX : ∀ k, X k → wi.heap.size ≤ k ∧ k < w'.heap.size) : Two w (fun k => J k ∨ X k) w' p N d q M c ∧ Keep J wi w' := by
  obtain ⟨O, I, O2, I2, h1, h2, hO, hO2, hs, hs2, hJ, hb⟩ := h
  refine ⟨⟨O, I, O2, I2, h1.below hb' (Nat.le_refl _), h2.below hb' (Nat.le_refl _), fun k hk => ⟨fun h => ?_, (hO k hk).2⟩, fun k hk => ⟨fun h => ?_, (hO2 k hk).2⟩, hs, hs2, fun k hk => ?_, hb.trans (hb'.mono hb.size)⟩, hb'.size, fun k _ hl => hb'.block k hl⟩
  · rcases h with h | h
    · exact (hO k hk).1 h
    · have := h1.lt k (.inl hk); have := (hX k h).1; omega
  · rcases h with h | h
    · exact (hO2 k hk).1 h
    · have := h2.lt k (.inl hk); have := (hX k h).1; omega
  · rcases hk with hk | hk
    · have := hJ k hk; have := hb'.size; omega
    · exact (hX k hk).2
theorem Two.read {w wi : World} {J : Bks} {p N q M : Nat} {d c : Dk} (h : Two w J wi p N d q M c) (k : Bs) (hk : k.length ≤ maxLen) : Calls Try.prog 18 #[.pointer (some ⟨p, 0, none⟩), .string ⟨k.toArray⟩] wi fun e w' =>
    ∃ a n c', ∃ X : Bks, e = .returned (.tuple #[.slice a n c', .int .i64 (lack d k [])]) ∧ BytesIn (fun i => J i ∨ X i) w' (.slice a n c') (if lack d k [] = 0 then (d.seen.get k).getD [] else []) ∧ Two w (fun i => J i ∨ X i) w' p N d q M c ∧ Keep J wi w' := by
  have h2 := h
  obtain ⟨O, I, _, _, hd, _⟩ := h
  refine (read_any hd k hk).mono ?_
  rintro e w' ⟨v, rfl, ho, hb⟩
  have hlt := ho.lt
  obtain ⟨a, c, hv⟩ := ho.form
  have hm := h2.more hb (fun i => v.ownBlock = some i) fun i hi => hlt i hi
  subst hv
  exact ⟨a, _, c, _, rfl, ho.bytesIn.wide fun i _ hi => .inr hi, hm⟩
theorem One.copy {w wi : World} {J : Bks} {p N : Nat} {d : Dk} (h : One w J wi p N d) (hN : N ≤ 400000) : Calls Try.prog 13 #[.pointer (some ⟨p, 0, none⟩)] wi fun e w' => ∃ q, e = .returned (.pointer (some ⟨q, 0, none⟩)) ∧ Two w J w' p N d q N d ∧ Keep J wi w' := by
  obtain ⟨O, I, hd, hO, hJ, hb⟩ := h
  refine (copy_any hd hN).mono ?_
  rintro e w' ⟨q, rfl, O2, hd2, hO2, hb2⟩
  have hlt := hd.lt
  refine ⟨q, rfl, ⟨O, I, O2, I, hd.below hb2 (Nat.le_refl _), hd2, hO, fun k hk => ⟨fun hj => by have := hJ k hj; have := hO2 k hk; omega, Nat.le_trans hb.size (hO2 k hk)⟩, fun k hk => ⟨fun h2 => by have := hlt k (.inl hk); have := hO2 k h2; omega, hd.di k hk⟩, fun k hk => hd2.di k hk, fun k hk => Nat.lt_of_lt_of_le (hJ k hk) hb2.size, hb.trans (hb2.mono hb.size)⟩, hb2.size, fun k _ hl => hb2.block k hl⟩
theorem One.wipe {w wi : World} {J : Bks} {p N : Nat} {d : Dk} (h : One w J wi p N d) (hN : N ≤ 400000) : Calls Try.prog 15 #[.pointer (some ⟨p, 0, none⟩)] wi fun e w' => e = .returned (.tuple #[]) ∧ One w J w' p (N + 1) d.wipe ∧ Keep J wi w' := by
  obtain ⟨O, I, hd, hO, hJ, hb⟩ := h
  refine (wipe_any hd hN).mono ?_
  rintro e w' ⟨rfl, O', I', hd', hs⟩
  exact ⟨rfl, One.step hd hO hJ hb hd' hs⟩
theorem string_bytes {W : World} {I : Bks} {v : Value} {l : List UInt8} (h : BytesIn I W v l) : (convert 31 9 v).run Try.prog W = .ok (.string ⟨l.toArray⟩) W := by
  rcases h with ⟨rfl, rfl⟩ | ⟨ad, cap, rfl, hl, hc⟩
  · exact run_convert_bytes_nil W 31 5 Try.underlying31 Try.underlying5 0 0 9 Try.underlying9
  · rcases Nat.eq_zero_or_pos l.length with h0 | hpos
    · obtain rfl : l = [] := List.eq_nil_of_length_eq_zero h0
      exact run_convert_bytes_zero W 31 5 Try.underlying31 Try.underlying5 (some ad) cap 9 Try.underlying9
    · obtain ⟨b, off, rfl, hb, hc⟩ := hc hpos
      rw [run_convert_bytes_arg W 31 5 Try.underlying31 Try.underlying5 b off l.length cap (l.map fun y => (y.toNat : Int)) (by simp) (fun i hi => by rw [hc i hi]; simp [hi]) 9 Try.underlying9]
      congr 2
      unfold strOfNums
      have e : ((fun n : Int => UInt8.ofNat n.toNat) ∘ fun y : UInt8 => (y.toNat : Int)) = id := by funext y; simp
      simp [e]
/-- a literal's bytes -/
theorem lit_bytes (w : World) (l : Bs) (cs : Array Value) (hcs : cs = (l.map byteV).toArray) (hl : l.length ≤ 100) : BytesAt (w.alloc (.cells cs 5)) (.slice (some ⟨w.heap.size, 0, none⟩) l.length l.length) l := by
  subst hcs
  refine BytesIn.mk' w.heap.size 0 _ (by unfold maxLen; omega) (fun _ => ⟨by rw [World.size_alloc]; omega, trivial⟩) fun j hj => ?_
  rw [Nat.zero_add, World.cell?_alloc_new, List.getElem?_toArray]
  exact getD_cell l j hj
end Go.Proofs.Yticbfnflillokaa
