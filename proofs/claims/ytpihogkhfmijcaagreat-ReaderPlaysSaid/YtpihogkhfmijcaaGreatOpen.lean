/- What came in: ints, numbers, bytes, places, fragments, ledgers, answers, calls: what each reads as. -/
import Derived.Test.YtpihogkhfmijcaaGreatRows
import Derived.Test.YtpihogkhfmijcaaGreatPg
import Derived.ProofKit
import Derived.OpenShut
import Derived.Deep.Matrix
import Derived.Deep.Slices
namespace Go.Proofs.YtpihogkhfmijcaaGreat
open Go.ChangeShapes Go.WideShapes Go.ChangeAt Go.RowKit Go.Deep
theorem own : ownKnob Tryz.prog.godebug = none := by kernel_rfl
theorem laidOut : laidOutB Tryz.prog = true := by kernel_rfl
theorem ocells22 : Tryz.prog.cellsOf 22 = 1 := by kernel_rfl
theorem ocells3 : Tryz.prog.cellsOf 3 = 1 := by kernel_rfl
theorem ocells5 : Tryz.prog.cellsOf 5 = 1 := by kernel_rfl
theorem ocells27 : Tryz.prog.cellsOf 30 = 1 := by kernel_rfl
theorem ocells38 : Tryz.prog.cellsOf 40 = 2 := by kernel_rfl
theorem ocells70 : Tryz.prog.cellsOf 73 = 2 := by kernel_rfl
theorem ocells25 : Tryz.prog.cellsOf 25 = 6 := by kernel_rfl
theorem ocells40 : Tryz.prog.cellsOf 42 = 9 := by kernel_rfl
theorem ocells42 : Tryz.prog.cellsOf 44 = 18 := by kernel_rfl
theorem ocells23' : Tryz.prog.cellsOf 23 = 1 := by kernel_rfl
theorem ocells30 : Tryz.prog.cellsOf 29 = 1 := by kernel_rfl
section
variable {H : Type} {enc : TypeId × Value → H} {W : World} {base : Nat} {v : Value} {d : DataW H} {p : List MemPlace}
noncomputable abbrev Trd (enc : TypeId × Value → H) (W : World) (n : Nat) (T : TypeId) (cs : List Value) := DataW.trod enc Tryz.prog W 0 (fun _ => true) true n T cs
set_option maxRecDepth 100000 in
theorem int_open (hval : Value.okWide Tryz.prog W .any base 3 v) (h : DataW.Trod enc Tryz.prog W 0 (fun _ => true) true 3 v d p) : ∃ n : Int, i64ok n ∧ v = .int .i64 n := by
  obtain ⟨x, rfl, rfl, rfl, wx⟩ := open_int Tryz.underlying3 hval h
  exact ⟨x, bounds_i64 wx, rfl⟩
set_option maxRecDepth 100000 in
theorem num_open (hval : Value.okWide Tryz.prog W .any base 22 v) (h : DataW.Trod enc Tryz.prog W 0 (fun _ => true) true 22 v d p) : ∃ n : Int, u64ok n ∧ v = .int .u64 n := by
  obtain ⟨x, rfl, rfl, rfl, wx⟩ := open_int Tryz.underlying22 hval h
  exact ⟨x, bounds_u64 wx, rfl⟩
/-- a slice whose elements are read each by itself -/
theorem rows_cell {α : Type} {T S : TypeId} {k : Nat} (hU : Tryz.prog.underlying S = some (.slice T)) (hk : Tryz.prog.cellsOf T = k) (hk0 : 0 < k) {e : α → List Value} {P : World → α → Prop}
    (each : ∀ (n : Nat) (cs : List Value) (x : DataW H × List MemPlace), cs.length = k → Trd enc W n T cs = some x → ∃ a : α, P W a ∧ cs = e a)
    {fuel : Nat} {y : DataW H × List MemPlace} (hf : Trd enc W fuel S [v] = some y) : ∃ l, RowAt P k e W v l := by
  rcases open_slice hU hf with ⟨hcs, hx⟩ | ⟨a, len, m, m', n, D, Pl, hcs, _, hl, hm, hmm, _, hel⟩
  · simp at hcs
    subst hcs
    exact ⟨[], RowAt.nil W⟩
  · simp at hcs
    subst hcs
    have hm' : m' = m := by simpa using hmm
    subst hm'
    rw [hk] at hel
    rw [maxLen_eq] at hm
    have each' : ∀ i, i < len → ∃ q : α, P W q ∧ (e q).length = k ∧ ∀ r, r < k → W.cell? (a.add (i * k + r)) = (e q)[r]? := by
      intro i hi
      obtain ⟨cs', h1, h2⟩ := hel i (by omega)
      obtain ⟨_, hlen, hcell⟩ := World.cells?_some h1
      obtain ⟨q, hok, rfl⟩ := each _ _ _ hlen h2
      refine ⟨q, hok, hlen, fun r hr => ?_⟩
      have e := hcell r hr
      rw [add_add] at e
      rw [e]
    rcases Nat.eq_zero_or_pos len with rfl | hpos
    · refine ⟨[], some a, m', rfl, by simp, by simp, (fun h => by cases h), fun h => absurd h (by simp)⟩
    · obtain ⟨q0, -⟩ := each' 0 hpos
      have each2 : ∀ i, ∃ q : α, i < len → P W q ∧ (e q).length = k ∧ ∀ r, r < k → W.cell? (a.add (i * k + r)) = (e q)[r]? := fun i => by
        by_cases hi : i < len
        · obtain ⟨q, hq⟩ := each' i hi
          exact ⟨q, fun _ => hq⟩
        · exact ⟨q0, fun h => absurd h hi⟩
      have hch : ∃ q : Nat → α, ∀ i, i < len → P W (q i) ∧ (e (q i)).length = k ∧ ∀ r, r < k → W.cell? (a.add (i * k + r)) = (e (q i))[r]? := ⟨fun i => (each2 i).choose, fun i => (each2 i).choose_spec⟩
      obtain ⟨q, hq⟩ := hch
      refine ⟨(List.range len).map q, some a, m', by simp, by simp; omega, by simp; omega, (fun h => by cases h), fun h => ?_⟩
      obtain ⟨b, off, sp⟩ := a
      obtain ⟨_, hl0, h0⟩ := hq 0 hpos
      have h0 := h0 0 hk0
      rw [List.getElem?_eq_getElem (by omega)] at h0
      have hs : sp = none := by simpa [Addr.add] using World.cell?_spot h0
      subst hs
      refine ⟨b, off, rfl, (by have := World.block_lt_of_cell? W _ h0; simpa [Addr.add] using this), fun j p hj => ?_⟩
      obtain ⟨hjl, he⟩ := List.getElem?_eq_some_iff.1 hj
      have hjl' : j < len := by simpa using hjl
      have hpq : p = q j := by rw [← he]; simp
      subst hpq
      obtain ⟨hok, -, hc⟩ := hq j hjl'
      refine ⟨hok, fun r hr => ?_⟩
      have := hc r hr
      rw [Addr.add_lit] at this
      rw [Nat.add_assoc]
      exact this
set_option maxRecDepth 100000 in
theorem byte_row {n : Nat} {cs : List Value} {x : DataW H × List MemPlace} (hl : cs.length = 1) (hf : Trd enc W n 5 cs = some x) : ∃ q : Int, (0 ≤ q ∧ q ≤ 255) ∧ cs = byC q := by
  match cs, hl with
  | [c0], _ =>
    obtain ⟨a, e0, _, w0⟩ := DataW.trod_int Tryz.underlying5 hf
    simp at e0
    subst e0
    exact ⟨a, bounds_u8 w0, rfl⟩
theorem bytes_cell {fuel : Nat} {y : DataW H × List MemPlace} (hf : Trd enc W fuel 30 [v] = some y) : ∃ l, BsAt W v l :=
  rows_cell Tryz.underlying30 ocells5 (by decide) (fun _ _ _ h1 h2 => byte_row h1 h2) hf
set_option maxRecDepth 100000 in
theorem bytes_open (hval : Value.okWide Tryz.prog W .any base 30 v) (h : DataW.Trod enc Tryz.prog W 0 (fun _ => true) true 30 v d p) : ∃ l, BsAt W v l := by
  obtain ⟨a0, len, cap, rfl⟩ := okWide_slice Tryz.underlying30 hval
  obtain ⟨fuel, hf⟩ := h
  exact bytes_cell (fuel := fuel) (y := (d, p)) (by simpa [Value.cells] using hf)
set_option maxRecDepth 100000 in
theorem place_row {n : Nat} {cs : List Value} {x : DataW H × List MemPlace} (hl2 : cs.length = 2) (hf : Trd enc W n 40 cs = some x) : ∃ q : PL, q.ok ∧ cs = q.cells := by
  obtain ⟨xs, k, _, rfl, hl, hlen, hf⟩ := DataW.trod_struct Tryz.underlying40 hf
  match cs, hl2 with
  | [c0, c1], _ =>
    match xs, hlen with
    | [y0, y1], _ =>
      have g0 := hf 0 _ rfl
      have g1 := hf 1 _ rfl
      simp [ocells3, ocells22] at g0 g1
      obtain ⟨a, e0, _, w0⟩ := DataW.trod_int Tryz.underlying3 g0
      obtain ⟨b, e1, _, w1⟩ := DataW.trod_int Tryz.underlying22 g1
      simp at e0 e1
      subst e0 e1
      exact ⟨⟨a, b⟩, ⟨bounds_i64 w0, bounds_u64 w1⟩, rfl⟩
theorem places_cell {fuel : Nat} {y : DataW H × List MemPlace} (hf : Trd enc W fuel 29 [v] = some y) : ∃ l, PsAt W v l :=
  rows_cell Tryz.underlying29 ocells38 (by decide) (fun _ _ _ h1 h2 => place_row h1 h2) hf
set_option maxRecDepth 100000 in
theorem frag_row {n : Nat} {cs : List Value} {x : DataW H × List MemPlace} (hl2 : cs.length = 2) (hf : Trd enc W n 73 cs = some x) : ∃ q : FV, q.ok W ∧ cs = q.cells := by
  obtain ⟨xs, k, _, rfl, hl, hlen, hf⟩ := DataW.trod_struct Tryz.underlying73 hf
  match cs, hl2 with
  | [c0, c1], _ =>
    match xs, hlen with
    | [y0, y1], _ =>
      have g0 := hf 0 _ rfl
      have g1 := hf 1 _ rfl
      simp [ocells22, ocells30] at g0 g1
      obtain ⟨f, e0, _, w0⟩ := DataW.trod_int Tryz.underlying22 g0
      obtain ⟨l, hp⟩ := places_cell g1
      obtain ⟨a, c, hv, _⟩ := hp.form
      simp at e0
      subst e0 hv
      exact ⟨⟨f, a, c, l⟩, ⟨bounds_u64 w0, hp⟩, rfl⟩
theorem frags_cell {fuel : Nat} {y : DataW H × List MemPlace} (hf : Trd enc W fuel 23 [v] = some y) : ∃ l, FsAt W v l :=
  rows_cell Tryz.underlying23 ocells70 (by decide) (fun _ _ _ h1 h2 => frag_row h1 h2) hf
/-- a ledger that came in -/
def LgV.okW (W : World) (l : LgV) : Prop := (u64ok l.i ∧ i64ok l.W ∧ i64ok l.A ∧ i64ok l.cl ∧ u64ok l.last) ∧ FsAt W (.slice l.a l.fs.length l.c) l.fs
set_option maxRecDepth 100000 in
theorem ledger_row {n : Nat} {cs : List Value} {x : DataW H × List MemPlace} (hl2 : cs.length = 6) (hf : Trd enc W n 25 cs = some x) : ∃ q : LgV, q.okW W ∧ cs = q.arr.toList := by
  obtain ⟨xs, k, _, rfl, hl, hlen, hf⟩ := DataW.trod_struct Tryz.underlying25 hf
  match cs, hl2 with
  | [c0, c1, c2, c3, c4, c5], _ =>
    match xs, hlen with
    | [y0, y1, y2, y3, y4, y5], _ =>
      have g0 := hf 0 _ rfl
      have g1 := hf 1 _ rfl
      have g2 := hf 2 _ rfl
      have g3 := hf 3 _ rfl
      have g4 := hf 4 _ rfl
      have g5 := hf 5 _ rfl
      simp [ocells3, ocells22, ocells23'] at g0 g1 g2 g3 g4 g5
      obtain ⟨i, e0, _, w0⟩ := DataW.trod_int Tryz.underlying22 g0
      obtain ⟨a1, e1, _, w1⟩ := DataW.trod_int Tryz.underlying3 g1
      obtain ⟨a2, e2, _, w2⟩ := DataW.trod_int Tryz.underlying3 g2
      obtain ⟨l, hp⟩ := frags_cell g3
      obtain ⟨a, c, hv, _⟩ := hp.form
      obtain ⟨a4, e4, _, w4⟩ := DataW.trod_int Tryz.underlying3 g4
      obtain ⟨a5, e5, _, w5⟩ := DataW.trod_int Tryz.underlying22 g5
      simp at e0 e1 e2 e4 e5
      subst e0 e1 e2 hv e4 e5
      exact ⟨⟨i, a1, a2, a, c, l, a4, a5⟩, ⟨⟨bounds_u64 w0, bounds_i64 w1, bounds_i64 w2, bounds_i64 w4, bounds_u64 w5⟩, hp⟩, rfl⟩
set_option maxRecDepth 100000 in
theorem ledger_open (hval : Value.okWide Tryz.prog W .any base 25 v) (h : DataW.Trod enc Tryz.prog W 0 (fun _ => true) true 25 v d p) : ∃ q : LgV, q.okW W ∧ v = q.val := by
  obtain ⟨cs, rfl, hsz⟩ := okWide_struct Tryz.underlying25 hval
  obtain ⟨fuel, hf⟩ := h
  have hf' : DataW.trod enc Tryz.prog W 0 (fun _ => true) true fuel 25 cs.toList = some (d, p) := hf
  obtain ⟨q, hok, hc⟩ := ledger_row (by rw [Array.length_toList, hsz, ocells25]) hf'
  exact ⟨q, hok, by rw [show cs = cs.toList.toArray from rfl, hc]; rfl⟩
set_option maxRecDepth 100000 in
theorem resp_row {n : Nat} {cs : List Value} {x : DataW H × List MemPlace} (hl2 : cs.length = 9) (hf : Trd enc W n 42 cs = some x) : ∃ q : RsV, q.ok W ∧ cs = q.cells.toList := by
  obtain ⟨xs, k, _, rfl, hl, hlen, hf⟩ := DataW.trod_struct Tryz.underlying42 hf
  match cs, hl2 with
  | [c0, c1, c2, c3, c4, c5, c6, c7, c8], _ =>
    match xs, hlen with
    | [y0, y1, y2, y3, y4, y5, y6, y7], _ =>
      have g0 := hf 0 _ rfl
      have g1 := hf 1 _ rfl
      have g2 := hf 2 _ rfl
      have g3 := hf 3 _ rfl
      have g4 := hf 4 _ rfl
      have g5 := hf 5 _ rfl
      have g6 := hf 6 _ rfl
      have g7 := hf 7 _ rfl
      simp [ocells3, ocells22, ocells38, ocells27] at g0 g1 g2 g3 g4 g5 g6 g7
      obtain ⟨q, hq, e0⟩ := place_row (by simp) g0
      obtain ⟨a1, e1, _, w1⟩ := DataW.trod_int Tryz.underlying3 g1
      obtain ⟨a2, e2, _, w2⟩ := DataW.trod_int Tryz.underlying3 g2
      obtain ⟨a3, e3, _, w3⟩ := DataW.trod_int Tryz.underlying22 g3
      obtain ⟨a4, e4, _, w4⟩ := DataW.trod_int Tryz.underlying22 g4
      obtain ⟨a5, e5, _, w5⟩ := DataW.trod_int Tryz.underlying22 g5
      obtain ⟨a6, e6, _, w6⟩ := DataW.trod_int Tryz.underlying22 g6
      obtain ⟨l, hp⟩ := bytes_cell g7
      obtain ⟨a, c, hv, _⟩ := hp.form
      simp [PL.cells] at e0 e1 e2 e3 e4 e5 e6
      obtain ⟨rfl, rfl⟩ := e0
      subst e1 e2 e3 e4 e5 e6 hv
      exact ⟨⟨q, a1, a2, a3, a4, a5, a6, a, c, l⟩, ⟨hq, hp⟩, rfl⟩
set_option maxRecDepth 100000 in
theorem call_row {n : Nat} {cs : List Value} {x : DataW H × List MemPlace} (hl2 : cs.length = 18) (hf : Trd enc W n 44 cs = some x) : ∃ q : CaV, q.ok W ∧ cs = q.cells := by
  obtain ⟨xs, k, _, rfl, hl, hlen, hf⟩ := DataW.trod_struct Tryz.underlying44 hf
  match cs, hl2 with
  | [c0, c1, c2, c3, c4, c5, c6, c7, c8, c9, c10, c11, c12, c13, c14, c15, c16, c17], _ =>
    match xs, hlen with
    | [y0, y1, y2, y3, y4], _ =>
      have g0 := hf 0 _ rfl
      have g1 := hf 1 _ rfl
      have g2 := hf 2 _ rfl
      have g3 := hf 3 _ rfl
      have g4 := hf 4 _ rfl
      simp [ocells3, ocells22, ocells40, ocells25] at g0 g1 g2 g3 g4
      obtain ⟨a0, e0, _, w0⟩ := DataW.trod_int Tryz.underlying3 g0
      obtain ⟨a1, e1, _, w1⟩ := DataW.trod_int Tryz.underlying3 g1
      obtain ⟨a2, e2, _, w2⟩ := DataW.trod_int Tryz.underlying22 g2
      obtain ⟨r, hr, e3⟩ := resp_row (by simp) g3
      obtain ⟨l, hl', e4⟩ := ledger_row (by simp) g4
      simp [RsV.cells, LgV.arr] at e0 e1 e2 e3 e4
      obtain ⟨rfl, rfl, rfl, rfl, rfl, rfl, rfl, rfl, rfl⟩ := e3
      obtain ⟨rfl, rfl, rfl, rfl, rfl, rfl⟩ := e4
      subst e0 e1 e2
      exact ⟨⟨a0, a1, a2, r, l⟩, ⟨bounds_i64 w0, bounds_i64 w1, bounds_u64 w2, hr, hl'.2⟩, rfl⟩
set_option maxRecDepth 100000 in
theorem calls_open (hval : Value.okWide Tryz.prog W .any base 26 v) (h : DataW.Trod enc Tryz.prog W 0 (fun _ => true) true 26 v d p) : ∃ l, CasAt W v l := by
  obtain ⟨a0, len, cap, rfl⟩ := okWide_slice Tryz.underlying26 hval
  obtain ⟨fuel, hf⟩ := h
  exact rows_cell Tryz.underlying26 ocells42 (by decide) (fun _ _ _ h1 h2 => call_row h1 h2) (fuel := fuel) (y := (d, p)) (by simpa [Value.cells] using hf)
end
end Go.Proofs.YtpihogkhfmijcaaGreat
