/- What came in: bytes, an int, an act, a slice of acts: what each reads as. -/
import Derived.Test.YticbfnflillokaaRows
import Derived.Test.YticbfnflillokaaBase
import Derived.ProofKit
import Derived.OpenShut
import Derived.Deep.Matrix
import Derived.Deep.Slices
namespace Go.Proofs.Yticbfnflillokaa
open Go.ChangeShapes Go.WideShapes Go.ChangeAt Go.RowKit Go.Deep
theorem own : ownKnob Try.prog.godebug = none := by kernel_rfl
theorem laidOut : laidOutB Try.prog = true := by kernel_rfl
theorem cells31 : Try.prog.cellsOf 31 = 1 := by kernel_rfl
theorem cells5 : Try.prog.cellsOf 5 = 1 := by kernel_rfl
theorem cells3 : Try.prog.cellsOf 3 = 1 := by kernel_rfl
theorem cells9 : Try.prog.cellsOf 9 = 1 := by kernel_rfl
theorem cells33 : Try.prog.cellsOf 33 = 6 := by kernel_rfl
def byteOf (z : Int) : UInt8 := UInt8.ofNat z.toNat
theorem byteOf_int {z : Int} (h : (Lit.int .u8 z).wf = true) : ((byteOf z).toNat : Int) = z := by
  have hb := bounds_u8 h
  unfold byteOf
  rw [UInt8.toNat_ofNat']
  omega
theorem bytesAt_ints {w : World} {a : Addr} {len cap : Nat} {zs : List Int} (hl : len ≤ cap) (hm : cap ≤ maxLen) (hz : zs.length = cap)
    (hc : ∀ i, i < cap → w.cell? (a.add i) = some (.int .u8 (zs.getD i 0))) (hw : ∀ n ∈ zs, (Lit.int .u8 n).wf = true) : BytesAt w (.slice (some a) len cap) ((zs.take len).map byteOf) := by
  have hlen : ((zs.take len).map byteOf).length = len := by simp; omega
  refine .inr ⟨a, cap, by rw [hlen], by rw [hlen]; exact ⟨Nat.le_trans hl hm, hl⟩, fun h => ?_⟩
  rw [hlen] at h ⊢
  obtain ⟨b, off, sp⟩ := a
  have h0 := hc 0 (by omega)
  have hs : sp = none := by simpa [Addr.add] using World.cell?_spot h0
  subst hs
  have hb : b < w.heap.size := by
    rcases Nat.lt_or_ge b w.heap.size with h' | h'
    · exact h'
    · simp [World.cell?, Addr.add, Array.getElem?_eq_none h'] at h0
  refine ⟨b, off, rfl, ⟨hb, trivial⟩, fun j hj => ?_⟩
  have hj' := hc j (by omega)
  rw [Addr.add_lit] at hj'
  rw [hj']
  have hjz : j < zs.length := by omega
  have e : ((zs.take len).map byteOf).getD j 0 = byteOf (zs.getD j 0) := by
    rw [List.getD_eq_getElem?_getD, List.getElem?_map, List.getElem?_take_of_lt hj, List.getElem?_eq_getElem hjz, List.getD_eq_getElem?_getD, List.getElem?_eq_getElem hjz]; rfl
  rw [e, byteOf_int (hw _ (by rw [List.getD_eq_getElem?_getD, List.getElem?_eq_getElem hjz]; exact List.getElem_mem hjz))]
/-- an act, but for its bytes' slice -/
structure AV where
  o : Int
  name : List UInt8
  to : List UInt8
  b : List UInt8
  x : Int
  y : Int
def AV.ok (q : AV) : Prop := q.name.length ≤ maxLen ∧ q.to.length ≤ maxLen ∧ (-9223372036854775808 ≤ q.o ∧ q.o ≤ 9223372036854775807) ∧ (-9223372036854775808 ≤ q.x ∧ q.x ≤ 9223372036854775807) ∧ (-9223372036854775808 ≤ q.y ∧ q.y ≤ 9223372036854775807)
/-- an act's cells -/
def AV.cells (q : AV) (u : Value) : List Value := [.int .i64 q.o, .string ⟨q.name.toArray⟩, .string ⟨q.to.toArray⟩, u, .int .i64 q.x, .int .i64 q.y]
/-- the slice of acts v reads as l -/
def ActsAt (w : World) (v : Value) (l : List AV) : Prop := ∃ a cap, v = .slice a l.length cap ∧ l.length ≤ maxLen ∧ l.length ≤ cap ∧ (a = none → cap = 0) ∧ (0 < l.length → ∃ b off, a = some ⟨b, off, none⟩ ∧ b < w.heap.size ∧ ∀ (j : Nat) q, l[j]? = some q → q.ok ∧ ∃ u, BytesAt w u q.b ∧ ∀ r, r < 6 → w.cell? ⟨b, off + j * 6 + r, none⟩ = (q.cells u)[r]?)
section
variable {H : Type} {enc : TypeId × Value → H} {W : World} {base : Nat} {v : Value} {d : DataW H} {p : List MemPlace}
set_option maxRecDepth 100000 in
theorem bytes_cell {fuel : Nat} {y : DataW H × List MemPlace} (hf : DataW.trod enc Try.prog W 0 (fun _ => true) true fuel 31 [v] = some y) : ∃ l, BytesAt W v l := by
  rcases open_ints Try.underlying31 Try.underlying5 cells5 hf with ⟨hcs, hx⟩ | ⟨a, len', cap', zs, hcs, _, hl, hm, hz, hx, hcell, hwz⟩
  · simp at hcs
    subst hcs
    exact ⟨[], .inl ⟨rfl, rfl⟩⟩
  · simp at hcs
    subst hcs
    have hz' : zs.length = cap' := by simpa using hz
    exact ⟨_, bytesAt_ints hl hm hz' (fun i hi => hcell i (by omega)) hwz⟩
set_option maxRecDepth 100000 in
theorem bytes_open (hval : Value.okWide Try.prog W .any base 31 v) (h : DataW.Trod enc Try.prog W 0 (fun _ => true) true 31 v d p) : ∃ l, BytesAt W v l := by
  obtain ⟨a0, len, cap, rfl⟩ := okWide_slice Try.underlying31 hval
  obtain ⟨fuel, hf⟩ := h
  exact bytes_cell hf
set_option maxRecDepth 100000 in
theorem int_open (hval : Value.okWide Try.prog W .any base 3 v) (h : DataW.Trod enc Try.prog W 0 (fun _ => true) true 3 v d p) : ∃ n : Int, (-9223372036854775808 ≤ n ∧ n ≤ 9223372036854775807) ∧ v = .int .i64 n := by
  obtain ⟨x, rfl, rfl, rfl, wx⟩ := open_int Try.underlying3 hval h
  exact ⟨x, bounds_i64 wx, rfl⟩
set_option maxRecDepth 100000 in
theorem str_of {n : Nat} {c : Value} {y : DataW H × List MemPlace} (h : DataW.trod enc Try.prog W 0 (fun _ => true) true n 9 [c] = some y) : ∃ l : List UInt8, c = .string ⟨l.toArray⟩ ∧ l.length ≤ maxLen := by
  obtain ⟨s, e, _, hs⟩ := DataW.trod_string Try.underlying9 h
  obtain rfl : c = .string s := by injection e
  exact ⟨s.data.toList, by rw [Array.toArray_toList], by rw [Array.length_toList]; exact hs⟩
set_option maxRecDepth 100000 in
theorem act_of {n : Nat} {c0 c1 c2 c3 c4 c5 : Value} {y0 y1 y2 y3 y4 y5 : DataW H × List MemPlace} (h0 : DataW.trod enc Try.prog W 0 (fun _ => true) true n 3 [c0] = some y0) (h1 : DataW.trod enc Try.prog W 0 (fun _ => true) true n 9 [c1] = some y1)
    (h2 : DataW.trod enc Try.prog W 0 (fun _ => true) true n 9 [c2] = some y2) (h3 : DataW.trod enc Try.prog W 0 (fun _ => true) true n 31 [c3] = some y3) (h4 : DataW.trod enc Try.prog W 0 (fun _ => true) true n 3 [c4] = some y4) (h5 : DataW.trod enc Try.prog W 0 (fun _ => true) true n 3 [c5] = some y5) :
    ∃ q : AV, q.ok ∧ BytesAt W c3 q.b ∧ [c0, c1, c2, c3, c4, c5] = q.cells c3 := by
  obtain ⟨o, e0, _, w0⟩ := DataW.trod_int Try.underlying3 h0
  obtain ⟨s, rfl, hs⟩ := str_of h1
  obtain ⟨t, rfl, ht⟩ := str_of h2
  obtain ⟨b, hb⟩ := bytes_cell h3
  obtain ⟨x, e4, _, w4⟩ := DataW.trod_int Try.underlying3 h4
  obtain ⟨y, e5, _, w5⟩ := DataW.trod_int Try.underlying3 h5
  simp at e0 e4 e5
  subst e0 e4 e5
  exact ⟨⟨o, s, t, b, x, y⟩, ⟨hs, ht, bounds_i64 w0, bounds_i64 w4, bounds_i64 w5⟩, hb, rfl⟩
set_option maxRecDepth 100000 in
theorem act_row {n : Nat} {cs : List Value} {x : DataW H × List MemPlace} (hl6 : cs.length = 6) (hf : DataW.trod enc Try.prog W 0 (fun _ => true) true n 33 cs = some x) : ∃ (q : AV) (u : Value), q.ok ∧ BytesAt W u q.b ∧ cs = q.cells u := by
  obtain ⟨xs, k, _, rfl, hl, hlen, hf⟩ := DataW.trod_struct Try.underlying33 hf
  match cs, hl6 with
  | [c0, c1, c2, c3, c4, c5], _ =>
    match xs, hlen with
    | [y0, y1, y2, y3, y4, y5], _ =>
      have g0 := hf 0 _ rfl
      have g1 := hf 1 _ rfl
      have g2 := hf 2 _ rfl
      have g3 := hf 3 _ rfl
      have g4 := hf 4 _ rfl
      have g5 := hf 5 _ rfl
      simp [cells3, cells9, cells31] at g0 g1 g2 g3 g4 g5
      obtain ⟨q, hok, hb, hc⟩ := act_of g0 g1 g2 g3 g4 g5
      exact ⟨q, c3, hok, hb, hc⟩
set_option maxRecDepth 100000 in
theorem act_open (hval : Value.okWide Try.prog W .any base 33 v) (h : DataW.Trod enc Try.prog W 0 (fun _ => true) true 33 v d p) : ∃ (q : AV) (u : Value), v = .agg (q.cells u).toArray ∧ BytesAt W u q.b ∧ q.ok := by
  obtain ⟨cs, rfl, hsz⟩ := okWide_struct Try.underlying33 hval
  obtain ⟨fuel, hf⟩ := h
  have hf' : DataW.trod enc Try.prog W 0 (fun _ => true) true fuel 33 cs.toList = some (d, p) := hf
  obtain ⟨q, u, hok, hb, hc⟩ := act_row (by rw [Array.length_toList, hsz, cells33]) hf'
  exact ⟨q, u, by rw [← hc], hb, hok⟩
instance : Inhabited AV := ⟨⟨0, [], [], [], 0, 0⟩⟩
set_option maxRecDepth 100000 in
theorem acts_open (hval : Value.okWide Try.prog W .any base 22 v) (h : DataW.Trod enc Try.prog W 0 (fun _ => true) true 22 v d p) : ∃ l, ActsAt W v l := by
  obtain ⟨a0, len, cap, rfl⟩ := okWide_slice Try.underlying22 hval
  obtain ⟨fuel, hf⟩ := h
  rcases open_slice Try.underlying22 hf with ⟨hcs, hx⟩ | ⟨a, len', cap', m, n, D, Pl, hcs, _, hl, hm, hmm, _, hel⟩
  · simp [Value.cells] at hcs
    obtain ⟨rfl, rfl, rfl⟩ := hcs
    exact ⟨[], none, 0, rfl, Nat.zero_le _, Nat.zero_le _, fun _ => rfl, fun h => absurd h (by simp)⟩
  · simp [Value.cells] at hcs
    obtain ⟨rfl, rfl, rfl⟩ := hcs
    have hm' : m = cap := by simpa using hmm
    subst hm'
    rw [cells33] at hel
    have each : ∀ i, i < len → ∃ q : AV, q.ok ∧ ∃ u, BytesAt W u q.b ∧ ∀ r, r < 6 → W.cell? (a.add (i * 6 + r)) = (q.cells u)[r]? := by
      intro i hi
      obtain ⟨cs', h1, h2⟩ := hel i (by omega)
      obtain ⟨_, hlen, hcell⟩ := World.cells?_some h1
      obtain ⟨q, u, hok, hb, rfl⟩ := act_row hlen h2
      refine ⟨q, hok, u, hb, fun r hr => ?_⟩
      have e := hcell r hr
      rw [add_add] at e
      rw [e]
    obtain ⟨q, hq⟩ := choose_lt each
    refine ⟨(List.range len).map q, some a, m, by simp, by simp; omega, by simp; omega, (fun h => by cases h), fun h => ?_⟩
    simp only [List.length_map, List.length_range] at h
    obtain ⟨b, off, sp⟩ := a
    obtain ⟨_, u, _, h0⟩ := hq 0 h
    have h0 : W.cell? ((⟨b, off, sp⟩ : Addr).add (0 * 6 + 0)) = some (.int .i64 (q 0).o) := h0 0 (by omega)
    have hs : sp = none := by simpa [Addr.add] using World.cell?_spot h0
    subst hs
    refine ⟨b, off, rfl, World.block_lt_of_cell? W _ h0, fun j p hj => ?_⟩
    obtain ⟨hjl, he⟩ := List.getElem?_eq_some_iff.1 hj
    have hjl' : j < len := by simpa using hjl
    have hpq : p = q j := by rw [← he]; simp
    subst hpq
    obtain ⟨hok, u, hb, hc⟩ := hq j hjl'
    refine ⟨hok, u, hb, fun r hr => ?_⟩
    have := hc r hr
    rw [Addr.add_lit] at this
    rw [Nat.add_assoc]
    exact this
end
end Go.Proofs.Yticbfnflillokaa
