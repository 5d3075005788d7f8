/- What memory reads as: slices of bytes; what a call changes; a reader's block. -/
import Derived.Test.YtniogemgkcoimaaProg
import Derived.Test.YtniogemgkcoimaaMath
import Derived.WalkKit
import Derived.WalkSpells
import Derived.WalkLawsBesides
import Derived.RegionTactic
import Derived.RegionCalls
import Derived.Deep.RegionWith
import Derived.Outline
import Derived.Lib.Hide
import Derived.Lib.SmallJoins
import Derived.OneCell
import Derived.Defers
import Derived.Recover
namespace Go.Proofs.Ytniogemgkcoimaa
open Go.RowKit
/-- the panic of a reader -/
abbrev boom : List PanicEntry := [{ v := .iface 82 (.agg #[]), recovered := false }]
def byteV (b : UInt8) : Value := .int .u8 (b.toNat : Int)

/-- w' is w with more blocks, and with other cells in the blocks S alone -/
structure Chg (S : List Nat) (w w' : World) : Prop where
  os : w'.os = w.os
  tape : w'.tape = w.tape
  output : w'.output = w.output
  size : w.heap.size ≤ w'.heap.size
  block : ∀ k, k < w.heap.size → k ∉ S → w'.heap[k]? = w.heap[k]?
theorem Chg.refl (S : List Nat) (w : World) : Chg S w w := ⟨rfl, rfl, rfl, Nat.le_refl _, fun _ _ _ => rfl⟩
theorem Chg.trans {S : List Nat} {a b c : World} (h : Chg S a b) (k : Chg S b c) : Chg S a c :=
  ⟨k.os.trans h.os, k.tape.trans h.tape, k.output.trans h.output, Nat.le_trans h.size k.size, fun i hi hn => (k.block i (Nat.lt_of_lt_of_le hi h.size) hn).trans (h.block i hi hn)⟩
theorem Chg.mono {S S' : List Nat} {a b : World} (h : Chg S a b) (hs : ∀ k ∈ S, k ∈ S' ∨ a.heap.size ≤ k) : Chg S' a b :=
  ⟨h.os, h.tape, h.output, h.size, fun i hi hn => h.block i hi fun hm => by rcases hs i hm with h' | h'; exact hn h'; omega⟩
/-- one change behind another -/
theorem Chg.then {S S' : List Nat} {a b c : World} (h : Chg S a b) (k : Chg S' b c) (hs : ∀ i ∈ S', i ∈ S ∨ a.heap.size ≤ i) : Chg S a c :=
  ⟨k.os.trans h.os, k.tape.trans h.tape, k.output.trans h.output, Nat.le_trans h.size k.size, fun i hi hn => (k.block i (Nat.lt_of_lt_of_le hi h.size) fun hm => by rcases hs i hm with h' | h'; exact hn h'; omega).trans (h.block i hi hn)⟩
theorem Chg.of_below {B : Nat} {S : List Nat} {a b : World} (h : Below B a b) (hB : a.heap.size ≤ B) : Chg S a b := ⟨h.os, h.tape, h.output, h.size, fun k hk _ => h.block k (by omega)⟩
theorem Chg.below {S : List Nat} {a b : World} (h : Chg S a b) {B : Nat} (hB : B ≤ a.heap.size) (hs : ∀ k ∈ S, B ≤ k) : Below B a b :=
  ⟨h.os, h.tape, h.output, h.size, fun k hk => h.block k (by omega) fun hm => by have := hs k hm; omega⟩
theorem Chg.alloc {S : List Nat} {a w : World} (h : Chg S a w) (o : Obj) : Chg S a (w.alloc o) :=
  h.then (S' := []) (Chg.of_below ((Below.refl _ w).alloc (Nat.le_refl _) o) (Nat.le_refl _)) (fun _ h => by cases h)
theorem Chg.drew {S : List Nat} {a w : World} (h : Chg S a w) : Chg S a w.drew := ⟨h.os, h.tape, h.output, h.size, h.block⟩
theorem Chg.setCell {S : List Nat} {a w : World} (h : Chg S a w) {p : Addr} (hp : p.block ∈ S ∨ a.heap.size ≤ p.block) (v : Value) : Chg S a (w.setCell p v) :=
  h.then (S' := [p.block]) ⟨rfl, rfl, rfl, by simp [World.setCell], fun k _ hn => Below.heap_setCell _ _ _ _ (by simpa using hn)⟩ (fun i hi => by
    have : i = p.block := by simpa using hi
    rw [this]; exact hp)
theorem Chg.grown {S : List Nat} {a w w' : World} {row : Option Nat} (h : Chg S a w) (hg : w.grownBy w' row) (hr : ∀ k, row = some k → k ∈ S ∨ a.heap.size ≤ k) : Chg S a w' :=
  h.then (S' := row.toList) ⟨hg.os, hg.tape, hg.output, hg.size, fun k hk hn => hg.block k hk (fun e => hn (by simp [← e]))⟩ (fun i hi => hr i (by simpa using hi))
theorem Chg.heap {S : List Nat} {w w' : World} (h : Chg S w w') {k : Nat} {o : Obj} (ho : w.heap[k]? = some o) (hn : k ∉ S) : w'.heap[k]? = some o := by
  rw [h.block k (lt_of_block ho) hn]; exact ho

/-- the slice v reads as the bytes l -/
def BytesAt (w : World) (v : Value) (l : List UInt8) : Prop :=
  (v = .slice none 0 0 ∧ l = []) ∨ ∃ (ad : Addr) (cap : Nat), v = .slice (some ad) l.length cap ∧ (l.length ≤ maxLen ∧ l.length ≤ cap) ∧ (0 < l.length → ∃ b off, ad = ⟨b, off, none⟩ ∧ b < w.heap.size ∧ ∀ j, j < l.length → w.cell? ⟨b, off + j, none⟩ = some (.int .u8 ((l.getD j 0).toNat : Int)))
theorem BytesAt.mk' {w : World} {l : List UInt8} (b off cap : Nat) (hl : l.length ≤ maxLen ∧ l.length ≤ cap) (hb : 0 < l.length → b < w.heap.size) (hc : ∀ j, j < l.length → w.cell? ⟨b, off + j, none⟩ = some (.int .u8 ((l.getD j 0).toNat : Int))) : BytesAt w (.slice (some ⟨b, off, none⟩) l.length cap) l :=
  .inr ⟨⟨b, off, none⟩, cap, rfl, hl, fun h => ⟨b, off, rfl, hb h, hc⟩⟩
theorem BytesAt.nil (w : World) : BytesAt w (.slice none 0 0) [] := .inl ⟨rfl, rfl⟩
theorem BytesAt.form {w : World} {v : Value} {l : List UInt8} (h : BytesAt w v l) : ∃ a cap, v = .slice a l.length cap ∧ l.length ≤ maxLen ∧ l.length ≤ cap ∧ (0 < l.length → ∃ b off, a = some ⟨b, off, none⟩ ∧ b < w.heap.size ∧ ∀ j, j < l.length → w.cell? ⟨b, off + j, none⟩ = some (.int .u8 ((l.getD j 0).toNat : Int))) := by
  rcases h with ⟨rfl, rfl⟩ | ⟨ad, cap, rfl, hl, hc⟩
  · exact ⟨none, 0, rfl, Nat.zero_le _, Nat.zero_le _, fun h => absurd h (by simp)⟩
  · exact ⟨_, cap, rfl, hl.1, hl.2, fun h => by obtain ⟨b, off, rfl, hb, hc⟩ := hc h; exact ⟨b, off, rfl, hb, hc⟩⟩
theorem BytesAt.below {w w' : World} {B : Nat} {v : Value} {l : List UInt8} (h : BytesAt w v l) (hb : Below B w w') (hB : w.heap.size ≤ B) : BytesAt w' v l := by
  rcases h with ⟨rfl, rfl⟩ | ⟨ad, cap, rfl, hl, hc⟩
  · exact .inl ⟨rfl, rfl⟩
  · exact .inr ⟨ad, cap, rfl, hl, fun h => by
      obtain ⟨b, off, rfl, hbl, hc⟩ := hc h
      exact ⟨b, off, rfl, by have := hb.size; omega, fun j hj => by rw [hb.cell (p := ⟨b, off + j, none⟩) (by show b < B; omega)]; exact hc j hj⟩⟩
/-- a block that holds no byte -/
def NB (w : World) (k : Nat) : Prop := ∀ (j : Nat) (n : Int), w.cell? ⟨k, j, none⟩ ≠ some (.int .u8 n)
theorem BytesAt.chg {w w' : World} {S : List Nat} {v : Value} {l : List UInt8} (h : BytesAt w v l) (hc : Chg S w w') (hs : ∀ k ∈ S, NB w k) : BytesAt w' v l := by
  rcases h with ⟨rfl, rfl⟩ | ⟨ad, cap, rfl, hl, hr⟩
  · exact .inl ⟨rfl, rfl⟩
  · exact .inr ⟨ad, cap, rfl, hl, fun h => by
      obtain ⟨b, off, rfl, hbl, hr⟩ := hr h
      refine ⟨b, off, rfl, by have := hc.size; omega, fun j hj => ?_⟩
      rw [← hr j hj]
      exact World.cell?_of_block (hc.block b hbl fun hm => hs b hm _ _ (hr 0 h))⟩
theorem BytesAt.length_le {w : World} {v : Value} {l : List UInt8} (h : BytesAt w v l) : l.length ≤ 9223372036854775807 := by
  obtain ⟨_, _, _, h, _⟩ := h.form
  unfold maxLen at h
  omega
theorem getD_drop (l : List UInt8) (n j : Nat) : (l.drop n).getD j 0 = l.getD (n + j) 0 := by
  simp [List.getD_eq_getElem?_getD, List.getElem?_drop]
theorem getD_take (l : List UInt8) (n j : Nat) (h : j < n) : (l.take n).getD j 0 = l.getD j 0 := by
  simp [List.getD_eq_getElem?_getD, List.getElem?_take, h]
theorem BytesAt.take {w : World} {a : Option Addr} {len cap n : Nat} {l : List UInt8} (h : BytesAt w (.slice a len cap) l) (hn : n ≤ l.length) : BytesAt w (.slice a n n) (l.take n) := by
  have hlt : (l.take n).length = n := by simp; omega
  rcases h with ⟨h1, rfl⟩ | ⟨ad, cap', h1, hl, hc⟩
  · cases h1
    obtain rfl : n = 0 := by simpa using hn
    exact .inl ⟨rfl, rfl⟩
  · cases h1
    refine .inr ⟨ad, n, by rw [hlt], ⟨by omega, by omega⟩, fun h => ?_⟩
    obtain ⟨b, off, rfl, hb, hc⟩ := hc (by omega)
    exact ⟨b, off, rfl, hb, fun j hj => by rw [getD_take _ _ _ (by omega)]; exact hc j (by omega)⟩
theorem BytesAt.drop {w : World} {a : Option Addr} {len cap n : Nat} {l : List UInt8} (h : BytesAt w (.slice a len cap) l) (hn : n ≤ l.length) (hc : ¬ cap = n) : BytesAt w (.slice (Option.map (fun x => x.add n) a) (len - n) (cap - n)) (l.drop n) := by
  rcases h with ⟨h1, rfl⟩ | ⟨ad, cap', h1, hl, hcc⟩
  · cases h1
    exact absurd (by simpa using hn : n = 0) (fun h => hc h.symm)
  · cases h1
    refine .inr ⟨ad.add n, cap - n, by simp, ⟨by simp; omega, by simp; omega⟩, fun h => ?_⟩
    rw [List.length_drop] at h
    obtain ⟨b, off, rfl, hb, hcc⟩ := hcc (by omega)
    refine ⟨b, off + n, Addr.add_lit _ _ _, hb, fun j hj => ?_⟩
    rw [List.length_drop] at hj
    rw [getD_drop, Nat.add_assoc]
    exact hcc (n + j) (by omega)
theorem BytesAt.drop_all {w : World} {a : Option Addr} {len n : Nat} {l : List UInt8} (h : BytesAt w (.slice a len n) l) (hn : n ≤ l.length) : BytesAt w (.slice a (len - n) 0) (l.drop n) := by
  rcases h with ⟨h1, rfl⟩ | ⟨ad, cap', h1, hl, hcc⟩
  · cases h1
    exact .inl ⟨rfl, by simp⟩
  · cases h1
    have e : n = l.length := by omega
    subst e
    refine .inr ⟨ad, 0, by simp, ⟨by simp, by simp⟩, fun h => by simp at h⟩

/-- what a reader's block holds -/
def RdIn (w : World) (g : Nat) (v : Value) (bad : Bool) : Prop := w.heap[g]? = some (.cells #[v, .bool bad] 54 (0, 0))
/-- the reader at block g stands so -/
def RdAt (w : World) (g : Nat) (s : RS) : Prop := ∃ v, RdIn w g v s.bad ∧ BytesAt w v s.l
theorem RdIn.cell0 {w : World} {g : Nat} {v : Value} {bad : Bool} (h : RdIn w g v bad) : w.cell? ⟨g, 0, none⟩ = some v := by simp [World.cell?, show w.heap[g]? = _ from h]
theorem RdIn.cell1 {w : World} {g : Nat} {v : Value} {bad : Bool} (h : RdIn w g v bad) : w.cell? ⟨g, 1, none⟩ = some (.bool bad) := by simp [World.cell?, show w.heap[g]? = _ from h]
theorem RdIn.free {w : World} {g : Nat} {v : Value} {bad : Bool} (h : RdIn w g v bad) (i : Nat) : w.frozen? ⟨g, i, none⟩ = false := by simp [World.frozen?, show w.heap[g]? = _ from h]
theorem RdIn.lt {w : World} {g : Nat} {v : Value} {bad : Bool} (h : RdIn w g v bad) : g < w.heap.size := lt_of_block h
theorem RdIn.set0 {w : World} {g : Nat} {v : Value} {bad : Bool} (h : RdIn w g v bad) (u : Value) : RdIn (w.setCell ⟨g, 0, none⟩ u) g u bad := by
  have := Go.Joins.block_setCell (i := 0) h u
  exact this
theorem RdIn.set1 {w : World} {g : Nat} {v : Value} {bad : Bool} (h : RdIn w g v bad) (b : Bool) : RdIn (w.setCell ⟨g, 1, none⟩ (.bool b)) g v b := by
  have := Go.Joins.block_setCell (i := 1) h (.bool b)
  exact this
theorem RdIn.nb {w : World} {g : Nat} {a : Option Addr} {n c : Nat} {bad : Bool} (h : RdIn w g (.slice a n c) bad) : NB w g := by
  intro j m hc
  rw [Go.Joins.cell_of_block h] at hc
  match j with
  | 0 => simp at hc
  | 1 => simp at hc
  | j + 2 => simp at hc
theorem RdAt.nb {w : World} {g : Nat} {s : RS} (h : RdAt w g s) : NB w g := by
  obtain ⟨v, hi, hb⟩ := h
  obtain ⟨a, c, rfl, _⟩ := hb.form
  exact hi.nb
theorem RdAt.lt {w : World} {g : Nat} {s : RS} (h : RdAt w g s) : g < w.heap.size := by obtain ⟨v, hi, _⟩ := h; exact hi.lt
theorem RdAt.chg {w w' : World} {g : Nat} {s : RS} {S : List Nat} (h : RdAt w g s) (hc : Chg S w w') (hg : g ∉ S) (hs : ∀ k ∈ S, NB w k) : RdAt w' g s := by
  obtain ⟨v, hi, hb⟩ := h
  exact ⟨v, hc.heap hi hg, hb.chg hc hs⟩
theorem RdAt.below {w w' : World} {B : Nat} {g : Nat} {s : RS} (h : RdAt w g s) (hb : Below B w w') (hB : w.heap.size ≤ B) : RdAt w' g s :=
  h.chg (Chg.of_below (S := []) hb hB) (by simp) (by simp)
theorem RdAt.small {w : World} {g : Nat} {s : RS} (h : RdAt w g s) : s.l.length ≤ 9223372036854775807 := by obtain ⟨v, _, hb⟩ := h; exact hb.length_le

/-- take: no part begins here -/
theorem take_no (g : Nat) (n : Int) (s : RS) (w : World) (hr : RdAt w g s) (hn : n < 0 ∨ (s.l.length : Int) < n) :
    Calls Try.prog 54 #[.pointer (some ⟨g, 0, none⟩), .int .i64 n] w fun e w' => e = .panicked boom ∧ w = w' := by
  obtain ⟨v, hi, hb⟩ := hr
  have hl := hb.length_le
  obtain ⟨a, cap, rfl, _⟩ := hb.form
  have hc := hi.cell0
  generalize s.l.length = L at *
  clear hi hb
  rcases hn with hn | hn
  · go_enter Try.func54, Try.ntmps54
    go_wp2
    exact ⟨rfl, rfl, rfl⟩
  · go_enter Try.func54, Try.ntmps54
    go_wp2
    exact ⟨rfl, rfl, rfl⟩
theorem take_raw (g n : Nat) (v : Value) (l : List UInt8) (bad : Bool) (w : World) (hi : RdIn w g v bad) (hb : BytesAt w v l) (hn : n ≤ l.length) :
    Calls Try.prog 54 #[.pointer (some ⟨g, 0, none⟩), .int .i64 n] w fun e w' => ∃ a u, e = .returned (.slice a n n) ∧ w' = w.setCell ⟨g, 0, none⟩ u ∧ ∀ W, BytesAt W v l → BytesAt W (.slice a n n) (l.take n) ∧ BytesAt W u (l.drop n) := by
  have hl := hb.length_le
  obtain ⟨a, cap, rfl, _, hcap, _⟩ := hb.form
  have hc := hi.cell0
  have hf := hi.free 0
  clear hi hb
  obtain ⟨L, hL⟩ : ∃ L, l.length = L := ⟨_, rfl⟩
  rw [hL] at hl hcap hc hn ⊢
  have HL := Lib.hid hL
  clear hL
  by_cases h : cap = n
  · subst h
    go_enter Try.func54, Try.ntmps54
    go_wp2
    go_ret
    exact ⟨a, _, rfl, rfl, fun W HB => ⟨HB.take (by rw [HL.out]; exact hn), by have h := HB.drop_all (by rw [HL.out]; exact hn); rwa [show L - cap = 0 by omega] at h⟩⟩
  · go_enter Try.func54, Try.ntmps54
    go_wp2
    go_ret
    exact ⟨a, _, rfl, rfl, fun W HB => ⟨HB.take (by rw [HL.out]; exact hn), HB.drop (by rw [HL.out]; exact hn) h⟩⟩
theorem take_yes (g n : Nat) (l : List UInt8) (bad : Bool) (w : World) (hr : RdAt w g ⟨l, bad⟩) (hn : n ≤ l.length) :
    Calls Try.prog 54 #[.pointer (some ⟨g, 0, none⟩), .int .i64 n] w fun e w' => ∃ a, e = .returned (.slice a n n) ∧ BytesAt w' (.slice a n n) (l.take n) ∧ RdAt w' g ⟨l.drop n, bad⟩ ∧ Chg [g] w w' := by
  have hnb := hr.nb
  obtain ⟨v, hi, hb⟩ := hr
  refine (take_raw g n v l bad w hi hb hn).mono ?_
  rintro e w' ⟨a, u, rfl, rfl, h⟩
  have hc : Chg [g] w (w.setCell ⟨g, 0, none⟩ u) := (Chg.refl _ _).setCell (.inl (by simp)) u
  have hb' : BytesAt (w.setCell ⟨g, 0, none⟩ u) v l := hb.chg hc fun k hk => by rw [List.mem_singleton.1 hk]; exact hnb
  exact ⟨a, rfl, (h _ hb').1, ⟨u, hi.set0 u, (h _ hb').2⟩, hc⟩
end Go.Proofs.Ytniogemgkcoimaa
