/- What came in: a slice of promises. -/
import Derived.Test.YtomoomeocolkmaaOpen
import Derived.Test.YtomoomeocolkmaaProm
namespace Go.Proofs.Ytomoomeocolkmaa
open Go.ChangeShapes Go.WideShapes Go.ChangeAt Go.RowKit Go.Deep
theorem cells45 : Try.prog.cellsOf 45 = 1 := by kernel_rfl
theorem cells5 : Try.prog.cellsOf 5 = 1 := by kernel_rfl
theorem cells47 : Try.prog.cellsOf 47 = 8 := by kernel_rfl
def byteOf (z : Int) : UInt8 := UInt8.ofNat z.toNat
theorem byteOf_int {z : Int} (h : (Lit.int .u8 z).wf = true) : ((byteOf z).toNat : Int) = z := by
  have hb := bounds_u8 h
  unfold byteOf
  rw [UInt8.toNat_ofNat']
  omega
theorem bytesAt_ints {w : World} {a : Addr} {len cap : Nat} {zs : List Int} (hl : len ≤ cap) (hm : cap ≤ maxLen) (hz : zs.length = cap)
    (hc : ∀ i, i < cap → w.cell? (a.add i) = some (.int .u8 (zs.getD i 0))) (hw : ∀ n ∈ zs, (Lit.int .u8 n).wf = true) : BytesAt w (.slice (some a) len cap) ((zs.take len).map byteOf) := by
  have hlen : ((zs.take len).map byteOf).length = len := by simp; omega
  refine .inr ⟨a, cap, by rw [hlen], by rw [hlen]; exact ⟨Nat.le_trans hl hm, hl⟩, fun h => ?_⟩
  rw [hlen] at h ⊢
  obtain ⟨b, off, sp⟩ := a
  have h0 := hc 0 (by omega)
  have hs : sp = none := by simpa [Addr.add] using World.cell?_spot h0
  subst hs
  have hb : b < w.heap.size := by
    rcases Nat.lt_or_ge b w.heap.size with h' | h'
    · exact h'
    · simp [World.cell?, Addr.add, Array.getElem?_eq_none h'] at h0
  refine ⟨b, off, rfl, ⟨hb, trivial⟩, fun j hj => ?_⟩
  have hj' := hc j (by omega)
  rw [Addr.add_lit] at hj'
  rw [hj']
  have hjz : j < zs.length := by omega
  have e : ((zs.take len).map byteOf).getD j 0 = byteOf (zs.getD j 0) := by
    rw [List.getD_eq_getElem?_getD, List.getElem?_map, List.getElem?_take_of_lt hj, List.getElem?_eq_getElem hjz, List.getD_eq_getElem?_getD, List.getElem?_eq_getElem hjz]; rfl
  rw [e, byteOf_int (hw _ (by rw [List.getD_eq_getElem?_getD, List.getElem?_eq_getElem hjz]; exact List.getElem_mem hjz))]
section
variable {H : Type} {enc : TypeId × Value → H} {W : World} {base : Nat} {v : Value} {d : DataW H} {p : List MemPlace}
set_option maxRecDepth 100000 in
theorem bytes_cell {fuel : Nat} {y : DataW H × List MemPlace} (hf : DataW.trod enc Try.prog W 0 (fun _ => true) true fuel 45 [v] = some y) : ∃ l, BytesAt W v l := by
  rcases open_ints Try.underlying45 Try.underlying5 cells5 hf with ⟨hcs, hx⟩ | ⟨a, len', cap', zs, hcs, _, hl, hm, hz, hx, hcell, hwz⟩
  · simp at hcs
    subst hcs
    exact ⟨[], .inl ⟨rfl, rfl⟩⟩
  · simp at hcs
    subst hcs
    have hz' : zs.length = cap' := by simpa using hz
    exact ⟨_, bytesAt_ints hl hm hz' (fun i hi => hcell i (by omega)) hwz⟩
set_option maxRecDepth 100000 in
theorem prom_row {n : Nat} {cs : List Value} {x : DataW H × List MemPlace} (hl8 : cs.length = 8) (hf : DataW.trod enc Try.prog W 0 (fun _ => true) true n 47 cs = some x) : ∃ q : PV, q.ok W ∧ cs = q.cells := by
  obtain ⟨xs, k, _, rfl, hl, hlen, hf⟩ := DataW.trod_struct Try.underlying47 hf
  match cs, hl8 with
  | [c0, c1, c2, c3, c4, c5, c6, c7], _ =>
    match xs, hlen with
    | [y0, y1, y2, y3], _ =>
      have g0 := hf 0 _ rfl
      have g1 := hf 1 _ rfl
      have g2 := hf 2 _ rfl
      have g3 := hf 3 _ rfl
      simp [cells3, cells24, cells45] at g0 g1 g2 g3
      obtain ⟨f, e0, _, w0⟩ := DataW.trod_int Try.underlying3 g0
      obtain ⟨pp, hpo, e1⟩ := bal_row rfl g1
      obtain ⟨aa, hao, e2⟩ := bal_row rfl g2
      obtain ⟨b, hb⟩ := bytes_cell g3
      obtain ⟨ua, uc, hu, _⟩ := hb.form
      simp at e0
      simp only [BV.cells, List.cons.injEq, and_true] at e1 e2
      obtain ⟨rfl, rfl, rfl⟩ := e1
      obtain ⟨rfl, rfl, rfl⟩ := e2
      subst e0 hu
      exact ⟨⟨f, pp, aa, ua, uc, b⟩, ⟨bounds_i64 w0, hpo, hao, hb⟩, rfl⟩
set_option maxRecDepth 100000 in
theorem proms_open (hval : Value.okWide Try.prog W .any base 44 v) (h : DataW.Trod enc Try.prog W 0 (fun _ => true) true 44 v d p) : ∃ l, PsAt W v l := by
  obtain ⟨a0, len, cap, rfl⟩ := okWide_slice Try.underlying44 hval
  obtain ⟨fuel, hf⟩ := h
  rcases open_slice Try.underlying44 hf with ⟨hcs, hx⟩ | ⟨a, len', cap', m, n, D, Pl, hcs, _, hl, hm, hmm, _, hel⟩
  · simp [Value.cells] at hcs
    obtain ⟨rfl, rfl, rfl⟩ := hcs
    exact ⟨[], rowAt_nil⟩
  · simp [Value.cells] at hcs
    obtain ⟨rfl, rfl, rfl⟩ := hcs
    have hm' : m = cap := by simpa using hmm
    subst hm'
    rw [cells47] at hel
    rw [maxLen_eq] at hm
    have each : ∀ i, i < len → ∃ q : PV, q.ok W ∧ ∀ r, r < 8 → W.cell? (a.add (i * 8 + r)) = (q.cells)[r]? := by
      intro i hi
      obtain ⟨cs', h1, h2⟩ := hel i (by omega)
      obtain ⟨_, hlen, hcell⟩ := World.cells?_some h1
      obtain ⟨q, hok, rfl⟩ := prom_row hlen h2
      refine ⟨q, hok, fun r hr => ?_⟩
      have e := hcell r hr
      rw [add_add] at e
      rw [e]
    obtain ⟨q, hq⟩ := choose_lt each
    refine ⟨(List.range len).map q, some a, m, by simp, by simp; omega, by simp; omega, (fun h => by cases h), fun h => ?_⟩
    simp only [List.length_map, List.length_range] at h
    obtain ⟨b, off, sp⟩ := a
    obtain ⟨_, h0⟩ := hq 0 h
    have h0 : W.cell? ((⟨b, off, sp⟩ : Addr).add (0 * 8 + 0)) = some (.int .i64 (q 0).f) := h0 0 (by omega)
    have hs : sp = none := by simpa [Addr.add] using World.cell?_spot h0
    subst hs
    refine ⟨b, off, rfl, World.block_lt_of_cell? W _ h0, fun j p hj => ?_⟩
    obtain ⟨hjl, he⟩ := List.getElem?_eq_some_iff.1 hj
    have hjl' : j < len := by simpa using hjl
    have hpq : p = q j := by rw [← he]; simp
    subst hpq
    obtain ⟨hok, hc⟩ := hq j hjl'
    refine ⟨hok, fun r hr => ?_⟩
    have := hc r hr
    rw [Addr.add_lit] at this
    rw [Nat.add_assoc]
    exact this
end
end Go.Proofs.Ytomoomeocolkmaa
