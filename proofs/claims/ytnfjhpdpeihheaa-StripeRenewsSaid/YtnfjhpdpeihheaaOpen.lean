/- What came in: ints, numbers, places, fragments, slices of places: what each reads as. -/
import Derived.Test.YtnfjhpdpeihheaaRows
import Derived.Test.YtnfjhpdpeihheaaBase
import Derived.ProofKit
import Derived.OpenShut
import Derived.Deep.Matrix
import Derived.Deep.Slices
namespace Go.Proofs.Ytnfjhpdpeihheaa
open Go.ChangeShapes Go.WideShapes Go.ChangeAt Go.RowKit Go.Deep
theorem own : ownKnob Try.prog.godebug = none := by kernel_rfl
theorem laidOut : laidOutB Try.prog = true := by kernel_rfl
theorem ocells22 : Try.prog.cellsOf 22 = 1 := by kernel_rfl
theorem ocells3 : Try.prog.cellsOf 3 = 1 := by kernel_rfl
theorem ocells38 : Try.prog.cellsOf 38 = 2 := by kernel_rfl
theorem ocells25 : Try.prog.cellsOf 25 = 2 := by kernel_rfl
theorem ocells23' : Try.prog.cellsOf 23 = 1 := by kernel_rfl
section
variable {H : Type} {enc : TypeId × Value → H} {W : World} {base : Nat} {v : Value} {d : DataW H} {p : List MemPlace}
set_option maxRecDepth 100000 in
theorem int_open (hval : Value.okWide Try.prog W .any base 3 v) (h : DataW.Trod enc Try.prog W 0 (fun _ => true) true 3 v d p) : ∃ n : Int, (-9223372036854775808 ≤ n ∧ n ≤ 9223372036854775807) ∧ v = .int .i64 n := by
  obtain ⟨x, rfl, rfl, rfl, wx⟩ := open_int Try.underlying3 hval h
  exact ⟨x, bounds_i64 wx, rfl⟩
set_option maxRecDepth 100000 in
theorem num_open (hval : Value.okWide Try.prog W .any base 22 v) (h : DataW.Trod enc Try.prog W 0 (fun _ => true) true 22 v d p) : ∃ n : Int, (0 ≤ n ∧ n ≤ 18446744073709551615) ∧ v = .int .u64 n := by
  obtain ⟨x, rfl, rfl, rfl, wx⟩ := open_int Try.underlying22 hval h
  exact ⟨x, bounds_u64 wx, rfl⟩
theorem rowAt_ints {k : IntKind} {P : World → Int → Prop} {a : Addr} {len cap : Nat} {zs : List Int} (hl : len ≤ cap) (hm : cap ≤ maxLen) (hz : zs.length = cap)
    (hc : ∀ i, i < cap → W.cell? (a.add i) = some (.int k (zs.getD i 0))) (hP : ∀ n ∈ zs, P W n) : RowAt P 1 (fun x => [.int k x]) W (.slice (some a) len cap) (zs.take len) := by
  have hlen : (zs.take len).length = len := by simp; omega
  rw [maxLen_eq] at hm
  refine ⟨some a, cap, by rw [hlen], by rw [hlen]; omega, by rw [hlen]; exact hl, (fun h => by cases h), fun h => ?_⟩
  rw [hlen] at h
  obtain ⟨b, off, sp⟩ := a
  have h0 := hc 0 (by omega)
  have hs : sp = none := by simpa [Addr.add] using World.cell?_spot h0
  subst hs
  refine ⟨b, off, rfl, ?_, fun j x hj => ?_⟩
  · rcases Nat.lt_or_ge b W.heap.size with h' | h'
    · exact h'
    · simp [World.cell?, Addr.add, Array.getElem?_eq_none h'] at h0
  · obtain ⟨hjl, he⟩ := List.getElem?_eq_some_iff.1 hj
    have hjz : j < zs.length := by omega
    have hx : zs.getD j 0 = x := by rw [List.getD_eq_getElem?_getD, List.getElem?_eq_getElem hjz, ← he]; simp
    refine ⟨hP x (by rw [← he]; exact List.mem_of_mem_take (List.getElem_mem hjl)), fun r hr => ?_⟩
    obtain rfl : r = 0 := by omega
    have hj' := hc j (by omega)
    rw [Addr.add_lit, hx] at hj'
    rw [Nat.mul_one, Nat.add_zero, hj']
    rfl
theorem rowAt_nil {α : Type} {P : World → α → Prop} {k : Nat} {e : α → List Value} : RowAt P k e W (.slice none 0 0) [] := ⟨none, 0, rfl, by simp, by simp, fun _ => rfl, fun h => absurd h (by simp)⟩
set_option maxRecDepth 100000 in
theorem ints_open (hval : Value.okWide Try.prog W .any base 36 v) (h : DataW.Trod enc Try.prog W 0 (fun _ => true) true 36 v d p) : ∃ l, IntsAt W v l := by
  obtain ⟨a0, len, cap, rfl⟩ := okWide_slice Try.underlying36 hval
  obtain ⟨fuel, hf⟩ := h
  rcases open_ints Try.underlying36 Try.underlying3 ocells3 hf with ⟨hcs, hx⟩ | ⟨a, len', cap', zs, hcs, _, hl, hm, hz, hx, hcell, hwz⟩
  · simp [Value.cells] at hcs
    obtain ⟨rfl, rfl, rfl⟩ := hcs
    exact ⟨[], rowAt_nil⟩
  · simp [Value.cells] at hcs
    obtain ⟨rfl, rfl, rfl⟩ := hcs
    have hz' : zs.length = cap := by simpa using hz
    exact ⟨_, rowAt_ints hl hm hz' (fun i hi => hcell i (by omega)) (fun n hn => bounds_i64 (hwz n hn))⟩
set_option maxRecDepth 100000 in
theorem place_row {n : Nat} {cs : List Value} {x : DataW H × List MemPlace} (hl2 : cs.length = 2) (hf : DataW.trod enc Try.prog W 0 (fun _ => true) true n 38 cs = some x) : ∃ q : PL, q.ok ∧ cs = q.cells := by
  obtain ⟨xs, k, _, rfl, hl, hlen, hf⟩ := DataW.trod_struct Try.underlying38 hf
  match cs, hl2 with
  | [c0, c1], _ =>
    match xs, hlen with
    | [y0, y1], _ =>
      have g0 := hf 0 _ rfl
      have g1 := hf 1 _ rfl
      simp [ocells3, ocells22] at g0 g1
      obtain ⟨a, e0, _, w0⟩ := DataW.trod_int Try.underlying3 g0
      obtain ⟨b, e1, _, w1⟩ := DataW.trod_int Try.underlying22 g1
      simp at e0 e1
      subst e0 e1
      exact ⟨⟨a, b⟩, ⟨bounds_i64 w0, bounds_u64 w1⟩, rfl⟩
set_option maxRecDepth 100000 in
theorem place_open (hval : Value.okWide Try.prog W .any base 38 v) (h : DataW.Trod enc Try.prog W 0 (fun _ => true) true 38 v d p) : ∃ q : PL, q.ok ∧ v = q.val := by
  obtain ⟨cs, rfl, hsz⟩ := okWide_struct Try.underlying38 hval
  obtain ⟨fuel, hf⟩ := h
  have hf' : DataW.trod enc Try.prog W 0 (fun _ => true) true fuel 38 cs.toList = some (d, p) := hf
  obtain ⟨q, hok, hc⟩ := place_row (by rw [Array.length_toList, hsz, ocells38]) hf'
  exact ⟨q, hok, by rw [show cs = cs.toList.toArray from rfl, hc]; rfl⟩
set_option maxRecDepth 100000 in
theorem places_cell {fuel : Nat} {y : DataW H × List MemPlace} (hf : DataW.trod enc Try.prog W 0 (fun _ => true) true fuel 23 [v] = some y) : ∃ l, PsAt W v l := by
  rcases open_slice Try.underlying23 hf with ⟨hcs, hx⟩ | ⟨a, len, m, m', n, D, Pl, hcs, _, hl, hm, hmm, _, hel⟩
  · simp at hcs
    subst hcs
    exact ⟨[], rowAt_nil⟩
  · simp at hcs
    subst hcs
    have hm' : m' = m := by simpa using hmm
    subst hm'
    rw [ocells38] at hel
    rw [maxLen_eq] at hm
    have each : ∀ i, i < len → ∃ q : PL, q.ok ∧ ∀ r, r < 2 → W.cell? (a.add (i * 2 + r)) = (q.cells)[r]? := by
      intro i hi
      obtain ⟨cs', h1, h2⟩ := hel i (by omega)
      obtain ⟨_, hlen, hcell⟩ := World.cells?_some h1
      obtain ⟨q, hok, rfl⟩ := place_row hlen h2
      refine ⟨q, hok, fun r hr => ?_⟩
      have e := hcell r hr
      rw [add_add] at e
      rw [e]
    obtain ⟨q, hq⟩ := choose_lt each
    refine ⟨(List.range len).map q, some a, m', by simp, by simp; omega, by simp; omega, (fun h => by cases h), fun h => ?_⟩
    simp only [List.length_map, List.length_range] at h
    obtain ⟨b, off, sp⟩ := a
    obtain ⟨_, h0⟩ := hq 0 h
    have h0 : W.cell? ((⟨b, off, sp⟩ : Addr).add (0 * 2 + 0)) = some (.int .i64 (q 0).n) := h0 0 (by omega)
    have hs : sp = none := by simpa [Addr.add] using World.cell?_spot h0
    subst hs
    refine ⟨b, off, rfl, World.block_lt_of_cell? W _ h0, fun j p hj => ?_⟩
    obtain ⟨hjl, he⟩ := List.getElem?_eq_some_iff.1 hj
    have hjl' : j < len := by simpa using hjl
    have hpq : p = q j := by rw [← he]; simp
    subst hpq
    obtain ⟨hok, hc⟩ := hq j hjl'
    refine ⟨hok, fun r hr => ?_⟩
    have := hc r hr
    rw [Addr.add_lit] at this
    rw [Nat.add_assoc]
    exact this
set_option maxRecDepth 100000 in
theorem places_open (hval : Value.okWide Try.prog W .any base 23 v) (h : DataW.Trod enc Try.prog W 0 (fun _ => true) true 23 v d p) : ∃ l, PsAt W v l := by
  obtain ⟨a0, len, cap, rfl⟩ := okWide_slice Try.underlying23 hval
  obtain ⟨fuel, hf⟩ := h
  exact places_cell (fuel := fuel) (y := (d, p)) (by simpa [Value.cells] using hf)
set_option maxRecDepth 100000 in
theorem frag_row {n : Nat} {cs : List Value} {x : DataW H × List MemPlace} (hl2 : cs.length = 2) (hf : DataW.trod enc Try.prog W 0 (fun _ => true) true n 25 cs = some x) : ∃ (f : Int) (a : Option Addr) (c : Nat) (l : List PL), (0 ≤ f ∧ f ≤ 18446744073709551615) ∧ cs = [.int .u64 f, .slice a l.length c] ∧ PsAt W (.slice a l.length c) l := by
  obtain ⟨xs, k, _, rfl, hl, hlen, hf⟩ := DataW.trod_struct Try.underlying25 hf
  match cs, hl2 with
  | [c0, c1], _ =>
    match xs, hlen with
    | [y0, y1], _ =>
      have g0 := hf 0 _ rfl
      have g1 := hf 1 _ rfl
      simp [ocells22, ocells23'] at g0 g1
      obtain ⟨f, e0, _, w0⟩ := DataW.trod_int Try.underlying22 g0
      obtain ⟨l, hp⟩ := places_cell g1
      obtain ⟨a, c, hv, _⟩ := hp.form
      simp at e0
      subst e0 hv
      exact ⟨f, a, c, l, bounds_u64 w0, rfl, hp⟩
set_option maxRecDepth 100000 in
theorem frag_open (hval : Value.okWide Try.prog W .any base 25 v) (h : DataW.Trod enc Try.prog W 0 (fun _ => true) true 25 v d p) : ∃ (f : Int) (a : Option Addr) (c : Nat) (l : List PL), (0 ≤ f ∧ f ≤ 18446744073709551615) ∧ v = .agg #[.int .u64 f, .slice a l.length c] ∧ PsAt W (.slice a l.length c) l := by
  obtain ⟨cs, rfl, hsz⟩ := okWide_struct Try.underlying25 hval
  obtain ⟨fuel, hf⟩ := h
  have hf' : DataW.trod enc Try.prog W 0 (fun _ => true) true fuel 25 cs.toList = some (d, p) := hf
  obtain ⟨f, a, c, l, h1, hc, h2⟩ := frag_row (by rw [Array.length_toList, hsz, ocells25]) hf'
  exact ⟨f, a, c, l, h1, by rw [show cs = cs.toList.toArray from rfl, hc], h2⟩
end
end Go.Proofs.Ytnfjhpdpeihheaa
