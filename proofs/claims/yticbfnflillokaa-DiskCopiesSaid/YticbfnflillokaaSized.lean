/- Acts that came in, with the form's own reach: no name, no bytes of theirs is longer. -/
import Derived.Test.YticbfnflillokaaOpen
import Derived.SizedLaws
namespace Go.Proofs.Yticbfnflillokaa
open Go.ChangeShapes Go.WideShapes Go.ChangeAt Go.RowKit Go.Deep
theorem bytes31 : Try.prog.bytesOf 5 = 1 := by kernel_rfl
theorem reach_eq : reachBytes = 140737488351232 := rfl
theorem weightsAll_mem {H : Type} {P : Program} {e : TypeId} : ∀ {l : List (DataW H)} {d : DataW H}, d ∈ l → ∀ n ∈ d.weights P e, n ∈ DataW.weightsAll P e l
  | d' :: r, d, hd, n, hn => by
    simp only [DataW.weightsAll, List.mem_append]
    rcases List.mem_cons.1 hd with rfl | h
    · exact Or.inl hn
    · exact Or.inr (weightsAll_mem h n hn)
/-- no longer than the reach -/
def AV.small (q : AV) : Prop := q.name.length ≤ 140737488351232 ∧ q.to.length ≤ 140737488351232 ∧ q.b.length ≤ 140737488351232
/-- the acts l, each within the reach -/
def ActsIn (w : World) (v : Value) (l : List AV) : Prop := ActsAt w v l ∧ ∀ q ∈ l, q.small
section
variable {H : Type} {enc : TypeId × Value → H} {W : World} {base : Nat} {v : Value} {d : DataW H} {p : List MemPlace}
set_option maxRecDepth 100000 in
theorem bytes_sized {fuel : Nat} {y : DataW H × List MemPlace} (hf : DataW.trod enc Try.prog W 0 (fun _ => true) true fuel 31 [v] = some y) (hz : ∀ n ∈ y.1.weights Try.prog 31, n ≤ reachBytes) : ∃ l, BytesAt W v l ∧ l.length ≤ 140737488351232 := by
  rcases open_ints Try.underlying31 Try.underlying5 cells5 hf with ⟨hcs, hx⟩ | ⟨a, len', cap', zs, hcs, _, hl, hm, hz1, hx, hcell, hwz⟩
  · simp at hcs
    subst hcs
    exact ⟨[], .inl ⟨rfl, rfl⟩, by simp⟩
  · simp at hcs
    subst hcs
    have hz' : zs.length = cap' := by simpa using hz1
    refine ⟨_, bytesAt_ints hl hm hz' (fun i hi => hcell i (by omega)) hwz, ?_⟩
    subst hx
    have h := hz _ (by simp only [DataW.weights, Try.underlying31]; exact List.mem_cons_self ..)
    rw [bytes31, reach_eq] at h
    simp [lits] at h ⊢
    omega
set_option maxRecDepth 100000 in
theorem str_sized {n : Nat} {c : Value} {y : DataW H × List MemPlace} (h : DataW.trod enc Try.prog W 0 (fun _ => true) true n 9 [c] = some y) (hz : ∀ n ∈ y.1.weights Try.prog 9, n ≤ reachBytes) : ∃ l : List UInt8, c = .string ⟨l.toArray⟩ ∧ l.length ≤ maxLen ∧ l.length ≤ 140737488351232 := by
  obtain ⟨s, e, hy, hs⟩ := DataW.trod_string Try.underlying9 h
  obtain rfl : c = .string s := by injection e
  subst hy
  refine ⟨s.data.toList, by rw [Array.toArray_toList], by rw [Array.length_toList]; exact hs, ?_⟩
  have h := hz s.data.toList.length (by simp [DataW.weights])
  rw [reach_eq] at h
  exact h
set_option maxRecDepth 100000 in
theorem act_sized {n : Nat} {c0 c1 c2 c3 c4 c5 : Value} {y0 y1 y2 y3 y4 y5 : DataW H × List MemPlace} (h0 : DataW.trod enc Try.prog W 0 (fun _ => true) true n 3 [c0] = some y0) (h1 : DataW.trod enc Try.prog W 0 (fun _ => true) true n 9 [c1] = some y1)
    (h2 : DataW.trod enc Try.prog W 0 (fun _ => true) true n 9 [c2] = some y2) (h3 : DataW.trod enc Try.prog W 0 (fun _ => true) true n 31 [c3] = some y3) (h4 : DataW.trod enc Try.prog W 0 (fun _ => true) true n 3 [c4] = some y4) (h5 : DataW.trod enc Try.prog W 0 (fun _ => true) true n 3 [c5] = some y5)
    (z1 : ∀ n ∈ y1.1.weights Try.prog 9, n ≤ reachBytes) (z2 : ∀ n ∈ y2.1.weights Try.prog 9, n ≤ reachBytes) (z3 : ∀ n ∈ y3.1.weights Try.prog 31, n ≤ reachBytes) :
    ∃ q : AV, q.ok ∧ q.small ∧ BytesAt W c3 q.b ∧ [c0, c1, c2, c3, c4, c5] = q.cells c3 := by
  obtain ⟨o, e0, _, w0⟩ := DataW.trod_int Try.underlying3 h0
  obtain ⟨s, rfl, hs, hs'⟩ := str_sized h1 z1
  obtain ⟨t, rfl, ht, ht'⟩ := str_sized h2 z2
  obtain ⟨b, hb, hb'⟩ := bytes_sized h3 z3
  obtain ⟨x, e4, _, w4⟩ := DataW.trod_int Try.underlying3 h4
  obtain ⟨y, e5, _, w5⟩ := DataW.trod_int Try.underlying3 h5
  simp at e0 e4 e5
  subst e0 e4 e5
  exact ⟨⟨o, s, t, b, x, y⟩, ⟨hs, ht, bounds_i64 w0, bounds_i64 w4, bounds_i64 w5⟩, ⟨hs', ht', hb'⟩, hb, rfl⟩
set_option maxRecDepth 100000 in
theorem row_sized {n : Nat} {cs : List Value} {x : DataW H × List MemPlace} (hl6 : cs.length = 6) (hf : DataW.trod enc Try.prog W 0 (fun _ => true) true n 33 cs = some x) (hz : ∀ n ∈ x.1.weights Try.prog 33, n ≤ reachBytes) : ∃ (q : AV) (u : Value), q.ok ∧ q.small ∧ BytesAt W u q.b ∧ cs = q.cells u := by
  obtain ⟨xs, k, _, rfl, hl, hlen, hf⟩ := DataW.trod_struct Try.underlying33 hf
  match cs, hl6 with
  | [c0, c1, c2, c3, c4, c5], _ =>
    match xs, hlen with
    | [y0, y1, y2, y3, y4, y5], _ =>
      have g0 := hf 0 _ rfl
      have g1 := hf 1 _ rfl
      have g2 := hf 2 _ rfl
      have g3 := hf 3 _ rfl
      have g4 := hf 4 _ rfl
      have g5 := hf 5 _ rfl
      simp [cells3, cells9, cells31] at g0 g1 g2 g3 g4 g5
      simp [DataW.weights, DataW.weightsEach, Try.underlying33] at hz
      obtain ⟨q, hok, hsm, hb, hc⟩ := act_sized g0 g1 g2 g3 g4 g5 (fun n hn => hz n (by simp [hn])) (fun n hn => hz n (by simp [hn])) (fun n hn => hz n (by simp [hn]))
      exact ⟨q, c3, hok, hsm, hb, hc⟩
set_option maxRecDepth 100000 in
theorem acts_sized (hval : Value.okWide Try.prog W .any base 22 v) (h : DataW.Trod enc Try.prog W 0 (fun _ => true) true 22 v d p) (hz : ∀ n ∈ d.weights Try.prog 22, n ≤ reachBytes) : ∃ l, ActsIn W v l := by
  obtain ⟨a0, len, cap, rfl⟩ := okWide_slice Try.underlying22 hval
  obtain ⟨fuel, hf⟩ := h
  rcases open_slice Try.underlying22 hf with ⟨hcs, hx⟩ | ⟨a, len', cap', m, n, D, Pl, hcs, _, hl, hm, hmm, hx, hel⟩
  · simp [Value.cells] at hcs
    obtain ⟨rfl, rfl, rfl⟩ := hcs
    exact ⟨[], ⟨none, 0, rfl, Nat.zero_le _, Nat.zero_le _, fun _ => rfl, fun h => absurd h (by simp)⟩, fun _ h => by cases h⟩
  · simp [Value.cells] at hcs
    obtain ⟨rfl, rfl, rfl⟩ := hcs
    have hm' : m = cap := by simpa using hmm
    subst hm'
    rw [cells33] at hel
    injection hx with hx1 hx2
    subst hx1
    have each : ∀ i, i < len → ∃ q : AV, q.ok ∧ q.small ∧ ∃ u, BytesAt W u q.b ∧ ∀ r, r < 6 → W.cell? (a.add (i * 6 + r)) = (q.cells u)[r]? := by
      intro i hi
      obtain ⟨cs', h1, h2⟩ := hel i (by omega)
      obtain ⟨_, hlen, hcell⟩ := World.cells?_some h1
      obtain ⟨q, u, hok, hsm, hb, rfl⟩ := row_sized hlen h2 (fun n hn => hz n (by
        simp only [DataW.weights, Try.underlying22, List.mem_cons, List.mem_append]
        exact Or.inr (Or.inl (weightsAll_mem (List.mem_map.2 ⟨i, List.mem_range.2 hi, rfl⟩) n hn))))
      refine ⟨q, hok, hsm, u, hb, fun r hr => ?_⟩
      have e := hcell r hr
      rw [add_add] at e
      rw [e]
    obtain ⟨q, hq⟩ := choose_lt each
    refine ⟨(List.range len).map q, ⟨some a, m, by simp, by simp; omega, by simp; omega, (fun h => by cases h), fun h => ?_⟩, fun x hx => ?_⟩
    · simp only [List.length_map, List.length_range] at h
      obtain ⟨b, off, sp⟩ := a
      obtain ⟨_, _, u, _, h0⟩ := hq 0 h
      have h0 : W.cell? ((⟨b, off, sp⟩ : Addr).add (0 * 6 + 0)) = some (.int .i64 (q 0).o) := h0 0 (by omega)
      have hs : sp = none := by simpa [Addr.add] using World.cell?_spot h0
      subst hs
      refine ⟨b, off, rfl, World.block_lt_of_cell? W _ h0, fun j p hj => ?_⟩
      obtain ⟨hjl, he⟩ := List.getElem?_eq_some_iff.1 hj
      have hjl' : j < len := by simpa using hjl
      have hpq : p = q j := by rw [← he]; simp
      subst hpq
      obtain ⟨hok, _, u, hb, hc⟩ := hq j hjl'
      refine ⟨hok, u, hb, fun r hr => ?_⟩
      have := hc r hr
      rw [Addr.add_lit] at this
      rw [Nat.add_assoc]
      exact this
    · obtain ⟨i, hi, rfl⟩ := List.mem_map.1 hx
      exact (hq i (List.mem_range.1 hi)).2.1
end
end Go.Proofs.Yticbfnflillokaa
