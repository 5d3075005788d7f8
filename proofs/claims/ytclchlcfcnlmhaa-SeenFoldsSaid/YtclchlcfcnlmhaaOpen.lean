/- What came in: ints, numbers, marks, rows of marks, of entries: what each reads as. -/
import Derived.Test.YtclchlcfcnlmhaaRows
import Derived.Test.YtclchlcfcnlmhaaFg
import Derived.ProofKit
import Derived.OpenShut
import Derived.Deep.Matrix
import Derived.Deep.Slices
namespace Go.Proofs.Ytclchlcfcnlmhaa
open Go.ChangeShapes Go.WideShapes Go.ChangeAt Go.RowKit Go.Deep
theorem own : ownKnob Try.prog.godebug = none := by kernel_rfl
theorem laidOut : laidOutB Try.prog = true := by kernel_rfl
theorem ocells3 : Try.prog.cellsOf 3 = 1 := by kernel_rfl
theorem ocells23 : Try.prog.cellsOf 23 = 1 := by kernel_rfl
theorem ocells26 : Try.prog.cellsOf 26 = 3 := by kernel_rfl
theorem ocells49 : Try.prog.cellsOf 49 = 1 := by kernel_rfl
theorem ocells51 : Try.prog.cellsOf 51 = 3 := by kernel_rfl
section
variable {H : Type} {enc : TypeId × Value → H} {W : World} {base : Nat} {v : Value} {d : DataW H} {p : List MemPlace}
set_option maxRecDepth 100000 in
theorem int_open (hval : Value.okWide Try.prog W .any base 3 v) (h : DataW.Trod enc Try.prog W 0 (fun _ => true) true 3 v d p) : ∃ n : Int, (-9223372036854775808 ≤ n ∧ n ≤ 9223372036854775807) ∧ v = .int .i64 n := by
  obtain ⟨x, rfl, rfl, rfl, wx⟩ := open_int Try.underlying3 hval h
  exact ⟨x, bounds_i64 wx, rfl⟩
set_option maxRecDepth 100000 in
theorem num_open (hval : Value.okWide Try.prog W .any base 23 v) (h : DataW.Trod enc Try.prog W 0 (fun _ => true) true 23 v d p) : ∃ n : Int, (0 ≤ n ∧ n ≤ 18446744073709551615) ∧ v = .int .u64 n := by
  obtain ⟨x, rfl, rfl, rfl, wx⟩ := open_int Try.underlying23 hval h
  exact ⟨x, bounds_u64 wx, rfl⟩
theorem rowAt_nil {α : Type} {P : World → α → Prop} {k : Nat} {e : α → List Value} : RowAt P k e W (.slice none 0 0) [] := ⟨none, 0, rfl, by simp, by simp, fun _ => rfl, fun h => absurd h (by simp)⟩
set_option maxRecDepth 100000 in
theorem mark_row {n : Nat} {cs : List Value} {x : DataW H × List MemPlace} (hl2 : cs.length = 3) (hf : DataW.trod enc Try.prog W 0 (fun _ => true) true n 26 cs = some x) : ∃ q : MK, q.ok ∧ cs = q.cells := by
  obtain ⟨xs, k, _, rfl, hl, hlen, hf⟩ := DataW.trod_struct Try.underlying26 hf
  match cs, hl2 with
  | [c0, c1, c2], _ =>
    match xs, hlen with
    | [y0, y1, y2], _ =>
      have g0 := hf 0 _ rfl
      have g1 := hf 1 _ rfl
      have g2 := hf 2 _ rfl
      simp [ocells3, ocells23] at g0 g1 g2
      obtain ⟨a, e0, _, w0⟩ := DataW.trod_int Try.underlying3 g0
      obtain ⟨b, e1, _, w1⟩ := DataW.trod_int Try.underlying23 g1
      obtain ⟨c, e2, _, w2⟩ := DataW.trod_int Try.underlying23 g2
      simp at e0 e1 e2
      subst e0 e1 e2
      exact ⟨⟨a, b, c⟩, ⟨bounds_i64 w0, bounds_u64 w1, bounds_u64 w2⟩, rfl⟩
set_option maxRecDepth 100000 in
theorem mark_open (hval : Value.okWide Try.prog W .any base 26 v) (h : DataW.Trod enc Try.prog W 0 (fun _ => true) true 26 v d p) : ∃ q : MK, q.ok ∧ v = q.val := by
  obtain ⟨cs, rfl, hsz⟩ := okWide_struct Try.underlying26 hval
  obtain ⟨fuel, hf⟩ := h
  have hf' : DataW.trod enc Try.prog W 0 (fun _ => true) true fuel 26 cs.toList = some (d, p) := hf
  obtain ⟨q, hok, hc⟩ := mark_row (by rw [Array.length_toList, hsz, ocells26]) hf'
  exact ⟨q, hok, by rw [show cs = cs.toList.toArray from rfl, hc]; rfl⟩
set_option maxRecDepth 100000 in
theorem marks_cell {fuel : Nat} {y : DataW H × List MemPlace} (hf : DataW.trod enc Try.prog W 0 (fun _ => true) true fuel 22 [v] = some y) : ∃ l, MsAt W v l := by
  rcases open_slice Try.underlying22 hf with ⟨hcs, hx⟩ | ⟨a, len, m, m', n, D, Pl, hcs, _, hl, hm, hmm, _, hel⟩
  · simp at hcs
    subst hcs
    exact ⟨[], rowAt_nil⟩
  · simp at hcs
    subst hcs
    have hm' : m' = m := by simpa using hmm
    subst hm'
    rw [ocells26] at hel
    rw [maxLen_eq] at hm
    have each : ∀ i, i < len → ∃ q : MK, q.ok ∧ ∀ r, r < 3 → W.cell? (a.add (i * 3 + r)) = (q.cells)[r]? := by
      intro i hi
      obtain ⟨cs', h1, h2⟩ := hel i (by omega)
      obtain ⟨_, hlen, hcell⟩ := World.cells?_some h1
      obtain ⟨q, hok, rfl⟩ := mark_row hlen h2
      refine ⟨q, hok, fun r hr => ?_⟩
      have e := hcell r hr
      rw [add_add] at e
      rw [e]
    obtain ⟨q, hq⟩ := choose_lt each
    refine ⟨(List.range len).map q, some a, m', by simp, by simp; omega, by simp; omega, (fun h => by cases h), fun h => ?_⟩
    simp only [List.length_map, List.length_range] at h
    obtain ⟨b, off, sp⟩ := a
    obtain ⟨_, h0⟩ := hq 0 h
    have h0 : W.cell? ((⟨b, off, sp⟩ : Addr).add (0 * 3 + 0)) = some (.int .i64 (q 0).p) := h0 0 (by omega)
    have hs : sp = none := by simpa [Addr.add] using World.cell?_spot h0
    subst hs
    refine ⟨b, off, rfl, World.block_lt_of_cell? W _ h0, fun j p hj => ?_⟩
    obtain ⟨hjl, he⟩ := List.getElem?_eq_some_iff.1 hj
    have hjl' : j < len := by simpa using hjl
    have hpq : p = q j := by rw [← he]; simp
    subst hpq
    obtain ⟨hok, hc⟩ := hq j hjl'
    refine ⟨hok, fun r hr => ?_⟩
    have := hc r hr
    rw [Addr.add_lit] at this
    rw [Nat.add_assoc]
    exact this
set_option maxRecDepth 100000 in
theorem marks_open (hval : Value.okWide Try.prog W .any base 22 v) (h : DataW.Trod enc Try.prog W 0 (fun _ => true) true 22 v d p) : ∃ l, MsAt W v l := by
  obtain ⟨a0, len, cap, rfl⟩ := okWide_slice Try.underlying22 hval
  obtain ⟨fuel, hf⟩ := h
  exact marks_cell (fuel := fuel) (y := (d, p)) (by simpa [Value.cells] using hf)
instance : Inhabited EN := ⟨⟨0, 0, none, 0, 0⟩⟩
set_option maxRecDepth 100000 in
theorem entry_row {n : Nat} {cs : List Value} {x : DataW H × List MemPlace} (hl2 : cs.length = 3) (hf : DataW.trod enc Try.prog W 0 (fun _ => true) true n 51 cs = some x) : ∃ q : EN, q.ok ∧ cs = q.cells := by
  obtain ⟨xs, k, _, rfl, hl, hlen, hf⟩ := DataW.trod_struct Try.underlying51 hf
  match cs, hl2 with
  | [c0, c1, c2], _ =>
    match xs, hlen with
    | [y0, y1, y2], _ =>
      have g0 := hf 0 _ rfl
      have g1 := hf 1 _ rfl
      have g2 := hf 2 _ rfl
      simp [ocells3, ocells23, ocells49] at g0 g1 g2
      obtain ⟨a, e0, _, w0⟩ := DataW.trod_int Try.underlying3 g0
      obtain ⟨b, e1, _, w1⟩ := DataW.trod_int Try.underlying23 g1
      have e2 : ∃ (a2 : Option Addr) (n2 k2 : Nat), c2 = .slice a2 n2 k2 ∧ n2 ≤ 9223372036854775807 := by
        rcases open_slice Try.underlying49 g2 with ⟨hcs, _⟩ | ⟨a2, len2, m2, m2', n2, D2, P2, hcs, _, hl2', hm2, _⟩
        · simp at hcs; exact ⟨_, _, _, hcs, by omega⟩
        · simp at hcs; rw [maxLen_eq] at hm2; exact ⟨_, _, _, hcs, by omega⟩
      obtain ⟨a2, n2, k2, e2, hn2⟩ := e2
      simp at e0 e1
      subst e0 e1 e2
      exact ⟨⟨a, b, a2, n2, k2⟩, ⟨bounds_i64 w0, bounds_u64 w1, hn2⟩, rfl⟩
set_option maxRecDepth 100000 in
theorem entries_cell {fuel : Nat} {y : DataW H × List MemPlace} (hf : DataW.trod enc Try.prog W 0 (fun _ => true) true fuel 38 [v] = some y) : ∃ l, EsAt W v l := by
  rcases open_slice Try.underlying38 hf with ⟨hcs, hx⟩ | ⟨a, len, m, m', n, D, Pl, hcs, _, hl, hm, hmm, _, hel⟩
  · simp at hcs
    subst hcs
    exact ⟨[], rowAt_nil⟩
  · simp at hcs
    subst hcs
    have hm' : m' = m := by simpa using hmm
    subst hm'
    rw [ocells51] at hel
    rw [maxLen_eq] at hm
    have each : ∀ i, i < len → ∃ q : EN, q.ok ∧ ∀ r, r < 3 → W.cell? (a.add (i * 3 + r)) = (q.cells)[r]? := by
      intro i hi
      obtain ⟨cs', h1, h2⟩ := hel i (by omega)
      obtain ⟨_, hlen, hcell⟩ := World.cells?_some h1
      obtain ⟨q, hok, rfl⟩ := entry_row hlen h2
      refine ⟨q, hok, fun r hr => ?_⟩
      have e := hcell r hr
      rw [add_add] at e
      rw [e]
    obtain ⟨q, hq⟩ := choose_lt each
    refine ⟨(List.range len).map q, some a, m', by simp, by simp; omega, by simp; omega, (fun h => by cases h), fun h => ?_⟩
    simp only [List.length_map, List.length_range] at h
    obtain ⟨b, off, sp⟩ := a
    obtain ⟨_, h0⟩ := hq 0 h
    have h0 : W.cell? ((⟨b, off, sp⟩ : Addr).add (0 * 3 + 0)) = some (.int .i64 (q 0).p) := h0 0 (by omega)
    have hs : sp = none := by simpa [Addr.add] using World.cell?_spot h0
    subst hs
    refine ⟨b, off, rfl, World.block_lt_of_cell? W _ h0, fun j p hj => ?_⟩
    obtain ⟨hjl, he⟩ := List.getElem?_eq_some_iff.1 hj
    have hjl' : j < len := by simpa using hjl
    have hpq : p = q j := by rw [← he]; simp
    subst hpq
    obtain ⟨hok, hc⟩ := hq j hjl'
    refine ⟨hok, fun r hr => ?_⟩
    have := hc r hr
    rw [Addr.add_lit] at this
    rw [Nat.add_assoc]
    exact this
set_option maxRecDepth 100000 in
theorem entries_open (hval : Value.okWide Try.prog W .any base 38 v) (h : DataW.Trod enc Try.prog W 0 (fun _ => true) true 38 v d p) : ∃ l, EsAt W v l := by
  obtain ⟨a0, len, cap, rfl⟩ := okWide_slice Try.underlying38 hval
  obtain ⟨fuel, hf⟩ := h
  exact entries_cell (fuel := fuel) (y := (d, p)) (by simpa [Value.cells] using hf)
end
end Go.Proofs.Ytclchlcfcnlmhaa
