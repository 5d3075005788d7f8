/- What came in: bytes, a text, an int, a part, a slice of parts: what each reads as. -/
import Derived.Test.YtniogemgkcoimaaRows
import Derived.Test.YtniogemgkcoimaaParts
import Derived.ProofKit
import Derived.OpenShut
import Derived.Deep.Matrix
import Derived.Deep.Slices
namespace Go.Proofs.Ytniogemgkcoimaa
open Go.ChangeShapes Go.WideShapes Go.ChangeAt Go.RowKit Go.Deep
theorem own : ownKnob Try.prog.godebug = none := by kernel_rfl
theorem laidOut : laidOutB Try.prog = true := by kernel_rfl
theorem cells27 : Try.prog.cellsOf 27 = 1 := by kernel_rfl
theorem cells5 : Try.prog.cellsOf 5 = 1 := by kernel_rfl
theorem cells3 : Try.prog.cellsOf 3 = 1 := by kernel_rfl
theorem cells30 : Try.prog.cellsOf 30 = 1 := by kernel_rfl
theorem cells32 : Try.prog.cellsOf 32 = 4 := by kernel_rfl
def byteOf (z : Int) : UInt8 := UInt8.ofNat z.toNat
theorem byteOf_int {z : Int} (h : (Lit.int .u8 z).wf = true) : ((byteOf z).toNat : Int) = z := by
  have hb := bounds_u8 h
  unfold byteOf
  rw [UInt8.toNat_ofNat']
  omega
theorem bytesAt_ints {w : World} {a : Addr} {len cap : Nat} {zs : List Int} (hl : len ≤ cap) (hm : cap ≤ maxLen) (hz : zs.length = cap)
    (hc : ∀ i, i < cap → w.cell? (a.add i) = some (.int .u8 (zs.getD i 0))) (hw : ∀ n ∈ zs, (Lit.int .u8 n).wf = true) : BytesAt w (.slice (some a) len cap) ((zs.take len).map byteOf) := by
  have hlen : ((zs.take len).map byteOf).length = len := by simp; omega
  refine .inr ⟨a, cap, by rw [hlen], by rw [hlen]; exact ⟨Nat.le_trans hl hm, hl⟩, fun h => ?_⟩
  rw [hlen] at h ⊢
  obtain ⟨b, off, sp⟩ := a
  have h0 := hc 0 (by omega)
  have hs : sp = none := by simpa [Addr.add] using World.cell?_spot h0
  subst hs
  have hb : b < w.heap.size := by
    rcases Nat.lt_or_ge b w.heap.size with h' | h'
    · exact h'
    · simp [World.cell?, Addr.add, Array.getElem?_eq_none h'] at h0
  refine ⟨b, off, rfl, hb, fun j hj => ?_⟩
  have hj' := hc j (by omega)
  rw [Addr.add_lit] at hj'
  rw [hj']
  have hjz : j < zs.length := by omega
  have e : ((zs.take len).map byteOf).getD j 0 = byteOf (zs.getD j 0) := by
    rw [List.getD_eq_getElem?_getD, List.getElem?_map, List.getElem?_take_of_lt hj, List.getElem?_eq_getElem hjz, List.getD_eq_getElem?_getD, List.getElem?_eq_getElem hjz]; rfl
  rw [e, byteOf_int (hw _ (by rw [List.getD_eq_getElem?_getD, List.getElem?_eq_getElem hjz]; exact List.getElem_mem hjz))]
section
variable {H : Type} {enc : TypeId × Value → H} {W : World} {base : Nat} {v : Value} {d : DataW H} {p : List MemPlace}
/-- bytes, of one cell -/
theorem bytes_cell {fuel : Nat} {y : DataW H × List MemPlace} (hf : DataW.trod enc Try.prog W 0 (fun _ => true) true fuel 27 [v] = some y) : ∃ l, BytesAt W v l := by
  rcases open_ints Try.underlying27 Try.underlying5 cells5 hf with ⟨hcs, hx⟩ | ⟨a, len', cap', zs, hcs, _, hl, hm, hz, hx, hcell, hwz⟩
  · simp at hcs
    subst hcs
    exact ⟨[], .inl ⟨rfl, rfl⟩⟩
  · simp at hcs
    subst hcs
    have hz' : zs.length = cap' := by simpa using hz
    exact ⟨_, bytesAt_ints hl hm hz' (fun i hi => hcell i (by omega)) hwz⟩
theorem bytes_open (hval : Value.okWide Try.prog W .any base 27 v) (h : DataW.Trod enc Try.prog W 0 (fun _ => true) true 27 v d p) : ∃ l, BytesAt W v l := by
  obtain ⟨a0, len, cap, rfl⟩ := okWide_slice Try.underlying27 hval
  obtain ⟨fuel, hf⟩ := h
  exact bytes_cell hf
theorem int_open (hval : Value.okWide Try.prog W .any base 3 v) (h : DataW.Trod enc Try.prog W 0 (fun _ => true) true 3 v d p) : ∃ n : Int, (-9223372036854775808 ≤ n ∧ n ≤ 9223372036854775807) ∧ v = .int .i64 n := by
  obtain ⟨x, rfl, rfl, rfl, wx⟩ := open_int Try.underlying3 hval h
  exact ⟨x, bounds_i64 wx, rfl⟩
theorem part_of {n : Nat} {c0 c1 c2 c3 : Value} {y0 y1 y2 y3 : DataW H × List MemPlace} (h0 : DataW.trod enc Try.prog W 0 (fun _ => true) true n 3 [c0] = some y0) (h1 : DataW.trod enc Try.prog W 0 (fun _ => true) true n 3 [c1] = some y1)
    (h2 : DataW.trod enc Try.prog W 0 (fun _ => true) true n 30 [c2] = some y2) (h3 : DataW.trod enc Try.prog W 0 (fun _ => true) true n 27 [c3] = some y3) :
    ∃ q : PV, c0 = .int .i64 q.sort ∧ c1 = .int .i64 q.most ∧ c2 = .int .u64 (q.x : Nat) ∧ BytesAt W c3 q.b ∧ q.ok := by
  obtain ⟨s, e0, _, ws⟩ := DataW.trod_int Try.underlying3 h0
  obtain ⟨m, e1, _, wm⟩ := DataW.trod_int Try.underlying3 h1
  obtain ⟨x, e2, _, wx⟩ := DataW.trod_int Try.underlying30 h2
  obtain ⟨b, hb⟩ := bytes_cell h3
  simp at e0 e1 e2
  subst e0 e1 e2
  have hx := bounds_u64 wx
  exact ⟨⟨s, m, x.toNat, b⟩, rfl, rfl, by congr 1; show x = ((x.toNat : Nat) : Int); omega, hb, bounds_i64 ws, bounds_i64 wm, by show x.toNat < _; omega⟩
theorem part_open (hval : Value.okWide Try.prog W .any base 32 v) (h : DataW.Trod enc Try.prog W 0 (fun _ => true) true 32 v d p) : ∃ (q : PV) (u : Value), v = q.val u ∧ BytesAt W u q.b ∧ q.ok := by
  obtain ⟨c0, c1, c2, c3, y0, y1, y2, y3, n, rfl, rfl, rfl, h0, h1, h2, h3⟩ := Go.Joins.open_agg4 Try.underlying32 (by kernel_rfl) cells32 hval h
  obtain ⟨q, rfl, rfl, rfl, hb, ok⟩ := part_of h0 h1 h2 h3
  exact ⟨q, c3, rfl, hb, ok⟩
instance : Inhabited PV := ⟨⟨0, 0, 0, []⟩⟩
theorem parts_open (hval : Value.okWide Try.prog W .any base 22 v) (h : DataW.Trod enc Try.prog W 0 (fun _ => true) true 22 v d p) : ∃ l, PartsAt W v l := by
  obtain ⟨a0, len, cap, rfl⟩ := okWide_slice Try.underlying22 hval
  obtain ⟨fuel, hf⟩ := h
  rcases open_slice Try.underlying22 hf with ⟨hcs, hx⟩ | ⟨a, len', cap', m, n, D, Pl, hcs, _, hl, hm, hmm, _, hel⟩
  · simp [Value.cells] at hcs
    obtain ⟨rfl, rfl, rfl⟩ := hcs
    exact ⟨[], none, 0, rfl, Nat.zero_le _, Nat.zero_le _, fun h => absurd h (by simp)⟩
  · simp [Value.cells] at hcs
    obtain ⟨rfl, rfl, rfl⟩ := hcs
    have hm' : m = cap := by simpa using hmm
    subst hm'
    rw [cells32] at hel
    have each : ∀ i, i < len → ∃ q : PV, ∃ u, W.cell? (a.add (i * 4)) = some (.int .i64 q.sort) ∧ W.cell? (a.add (i * 4 + 1)) = some (.int .i64 q.most) ∧ W.cell? (a.add (i * 4 + 2)) = some (.int .u64 (q.x : Nat)) ∧ W.cell? (a.add (i * 4 + 3)) = some u ∧ BytesAt W u q.b ∧ q.ok := by
      intro i hi
      obtain ⟨cs', h1, h2⟩ := hel i (by omega)
      obtain ⟨_, hlen, hcell⟩ := World.cells?_some h1
      obtain ⟨y0, y1, y2, y3, k, _, _, g0, g1, g2, g3⟩ := Go.Joins.trod_struct4 Try.underlying32 h2
      match cs', hlen with
      | [v0, v1, v2, v3], _ =>
        have e0 := hcell 0 (by omega)
        have e1 := hcell 1 (by omega)
        have e2 := hcell 2 (by omega)
        have e3 := hcell 3 (by omega)
        rw [add_add] at e0 e1 e2 e3
        simp [cells3, cells30, cells27] at g0 g1 g2 g3
        obtain ⟨q, rfl, rfl, rfl, hb, ok⟩ := part_of g0 g1 g2 g3
        exact ⟨q, v3, by simpa using e0, by simpa using e1, by simpa using e2, by simpa using e3, hb, ok⟩
    obtain ⟨q, hq⟩ := choose_lt each
    refine ⟨(List.range len).map q, some a, m, by simp, by simp; omega, by simp; omega, fun h => ?_⟩
    simp only [List.length_map, List.length_range] at h
    obtain ⟨b, off, sp⟩ := a
    obtain ⟨u, h0, _⟩ := hq 0 h
    have hs : sp = none := by simpa [Addr.add] using World.cell?_spot h0
    subst hs
    refine ⟨b, off, rfl, World.block_lt_of_cell? W _ h0, fun j p hj => ?_⟩
    obtain ⟨hjl, he⟩ := List.getElem?_eq_some_iff.1 hj
    have hjl' : j < len := by simpa using hjl
    have hpq : p = q j := by rw [← he]; simp
    subst hpq
    obtain ⟨u, k0, k1, k2, k3, hb, ok⟩ := hq j hjl'
    rw [Addr.add_lit] at k0 k1 k2 k3
    exact ⟨u, k0, by rw [Nat.add_assoc]; exact k1, by rw [Nat.add_assoc]; exact k2, by rw [Nat.add_assoc]; exact k3, hb, ok⟩
end
end Go.Proofs.Ytniogemgkcoimaa
